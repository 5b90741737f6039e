package isa

import (
	"math"
	"slices"
	"strings"
	"testing"

	"crucible/api"
)

// shape is a row of the chapter's table once more: the registers that an Op has, reads and writes, by their letters, and the least and greatest Imm.
type shape struct {
	op              int
	has             string
	least, greatest int64
	bits            int // of Imm
	reads           string
	writes          string // D, L (register 14), or nothing
}

func shapes() []shape {
	list := []shape{
		{api.InsAddI, "DA", -32768, 32767, 16, "A", "D"},
		{api.InsLow, "D", -32768, 32767, 16, "", "D"},
		{api.InsHigh, "D", 0, 65535, 16, "D", "D"},
		{api.InsLoad4, "DA", -32768, 32767, 16, "A", "D"},
		{api.InsLoad1, "DA", -32768, 32767, 16, "A", "D"},
		{api.InsStore4, "DA", -32768, 32767, 16, "DA", ""},
		{api.InsStore1, "DA", -32768, 32767, 16, "DA", ""},
		{api.InsZero, "A", -32768, 32767, 16, "A", ""},
		{api.InsNot, "A", -32768, 32767, 16, "A", ""},
		{api.InsJump, "", -8388608, 8388607, 24, "", ""},
		{api.InsCall, "", -8388608, 8388607, 24, "", "L"},
		{api.InsReturn, "A", 0, 0, 0, "A", ""},
		{api.InsGet, "D", 0, 0, 0, "", "D"},
		{api.InsPut, "A", 0, 0, 0, "A", ""},
		{api.InsTrap, "", 1, 5, 16, "", ""},
		{api.InsHalt, "A", 0, 0, 0, "A", ""},
	}
	for op := 1; op <= 19; op++ {
		list = append(list, shape{op, "DAB", 0, 0, 0, "AB", "D"})
	}
	return list
}

// places is where the registers' letters lie in a word.
var places = []struct {
	letter string
	bit    int
}{{"D", 20}, {"A", 16}, {"B", 12}}

func registerOf(x api.Ins, letter string) int {
	switch letter {
	case "D":
		return x.D
	case "A":
		return x.A
	}
	return x.B
}

func withPart(x api.Ins, letter string, r int) api.Ins {
	switch letter {
	case "D":
		x.D = r
	case "A":
		x.A = r
	case "B":
		x.B = r
	}
	return x
}

// registersOf is some registers of a part: all of them, or 0 alone where the Op has no such part.
func registersOf(s shape, letter string) []int {
	if !strings.Contains(s.has, letter) {
		return []int{0}
	}
	return []int{0, 1, 2, 7, 8, 14, 15}
}

// immsOf is the edges of an Op's Imm and some between, each once.
func immsOf(s shape) []int32 {
	var list []int32
	for _, i := range []int64{s.least, s.least + 1, -256, -2, -1, 0, 1, 2, 3, 4, 5, 127, 128, 255, 256, 4096, 32767, 32768, 65535, 65536, s.greatest - 1, s.greatest} {
		if i >= s.least && i <= s.greatest && !slices.Contains(list, int32(i)) {
			list = append(list, int32(i))
		}
	}
	return list
}

// mayBe is instructions of a shape that may be.
func mayBe(s shape) []api.Ins {
	var list []api.Ins
	for _, d := range registersOf(s, "D") {
		for _, a := range registersOf(s, "A") {
			for _, b := range registersOf(s, "B") {
				for _, i := range immsOf(s) {
					list = append(list, api.Ins{Op: s.op, D: d, A: a, B: b, Imm: i})
				}
			}
		}
	}
	return list
}

// wordOf is an instruction's word by sums, without bits laid over bits.
func wordOf(s shape, x api.Ins) uint32 {
	w := int64(x.Op) * (1 << 24)
	for _, p := range places {
		w += int64(registerOf(x, p.letter)) * (1 << p.bit)
	}
	i := int64(x.Imm)
	if i < 0 {
		i += 1 << s.bits
	}
	return uint32(w + i)
}

func wantRefused(t *testing.T, x api.Ins) {
	t.Helper()
	if e := Check(x); e != api.ErrArg {
		t.Errorf("Check(%+v): %d, not ErrArg", x, e)
	}
	if w, e := Encode(x); w != 0 || e != api.ErrArg {
		t.Errorf("Encode(%+v): %08x, %d, not 0, ErrArg", x, w, e)
	}
	if l := Reads(x); len(l) != 0 {
		t.Errorf("Reads(%+v): %v, not none", x, l)
	}
	if r := Writes(x); r != -1 {
		t.Errorf("Writes(%+v): %d, not -1", x, r)
	}
}

func wantNoWord(t *testing.T, w uint32) {
	t.Helper()
	if x, e := Decode(w); x != (api.Ins{}) || e != api.ErrArg {
		t.Errorf("Decode(%08x): %+v, %d, not ErrArg alone", w, x, e)
	}
}

// Is1: the document's examples, and one word of each kind, written out.
func TestWordsWrittenOut(t *testing.T) {
	for _, c := range []struct {
		x api.Ins
		w uint32
	}{
		{api.Ins{Op: api.AluAdd, D: 1, A: 2, B: 3}, 0x01123000},
		{api.Ins{Op: api.AluLeU, D: 15, A: 15, B: 15}, 0x13FFF000},
		{api.Ins{Op: api.AluSub}, 0x02000000},
		{api.Ins{Op: api.InsAddI, D: 15, A: 14, Imm: -32768}, 0x20FE8000},
		{api.Ins{Op: api.InsLow, D: 5, Imm: -1}, 0x2150FFFF},
		{api.Ins{Op: api.InsHigh, D: 4, Imm: 65535}, 0x2240FFFF},
		{api.Ins{Op: api.InsLoad4, D: 3, A: 13, Imm: 32767}, 0x233D7FFF},
		{api.Ins{Op: api.InsLoad1, D: 1, A: 2, Imm: 3}, 0x24120003},
		{api.Ins{Op: api.InsStore4, D: 14, A: 13, Imm: -4}, 0x25EDFFFC},
		{api.Ins{Op: api.InsStore1, D: 1, A: 2}, 0x26120000},
		{api.Ins{Op: api.InsZero, A: 9, Imm: -2}, 0x2709FFFE},
		{api.Ins{Op: api.InsNot, A: 7, Imm: 32767}, 0x28077FFF},
		{api.Ins{Op: api.InsJump, Imm: -1}, 0x29FFFFFF},
		{api.Ins{Op: api.InsJump, Imm: 8388607}, 0x297FFFFF},
		{api.Ins{Op: api.InsCall, Imm: -8388608}, 0x2A800000},
		{api.Ins{Op: api.InsReturn, A: 14}, 0x2B0E0000},
		{api.Ins{Op: api.InsGet, D: 6}, 0x2C600000},
		{api.Ins{Op: api.InsPut, A: 6}, 0x2D060000},
		{api.Ins{Op: api.InsTrap, Imm: 1}, 0x2E000001},
		{api.Ins{Op: api.InsTrap, Imm: 5}, 0x2E000005},
		{api.Ins{Op: api.InsHalt, A: 15}, 0x2F0F0000},
	} {
		if w, e := Encode(c.x); w != c.w || e != api.OK {
			t.Errorf("Encode(%+v): %08x, %d, not %08x", c.x, w, e, c.w)
		}
		if x, e := Decode(c.w); x != c.x || e != api.OK {
			t.Errorf("Decode(%08x): %+v, %d, not %+v", c.w, x, e, c.x)
		}
	}
}

// Is1 and Is3: every Op with its edges, to its word and back; unlike instructions have unlike words.
func TestThereAndBack(t *testing.T) {
	seen := map[uint32]api.Ins{}
	for _, s := range shapes() {
		for _, x := range mayBe(s) {
			if e := Check(x); e != api.OK {
				t.Fatalf("Check(%+v): %d", x, e)
			}
			w, e := Encode(x)
			if want := wordOf(s, x); w != want || e != api.OK {
				t.Fatalf("Encode(%+v): %08x, %d, not %08x", x, w, e, want)
			}
			if back, e := Decode(w); back != x || e != api.OK {
				t.Fatalf("Decode(%08x): %+v, %d, not %+v", w, back, e, x)
			}
			if other, ok := seen[w]; ok {
				t.Fatalf("%+v and %+v both have the word %08x", x, other, w)
			}
			seen[w] = x
		}
	}
}

// Is1: an Op that is none, whatever else stands there.
func TestOpsThatAreNone(t *testing.T) {
	for _, op := range []int{math.MinInt, -1 << 32, -1<<32 + api.InsJump, -256 + api.AluAdd, -api.InsTrap, -1, 0, 20, 21, 30, 31, 48, 49, 127, 128, 255, 256, 256 + api.AluAdd, 256 + api.InsJump, 1<<32 + api.AluAdd, math.MaxInt} {
		wantRefused(t, api.Ins{Op: op})
		wantRefused(t, api.Ins{Op: op, D: 1, A: 2, B: 3})
		wantRefused(t, api.Ins{Op: op, Imm: 1})
		wantRefused(t, api.Ins{Op: op, D: 1, Imm: 1})
	}
	for op := range uint32(256) {
		if op >= 1 && op <= 19 || op >= 32 && op <= 47 {
			continue
		}
		for _, rest := range []uint32{0, 1, 5, 1 << 12, 1 << 16, 1 << 20, 0x123000, 0xFFFFFF} {
			wantNoWord(t, op<<24|rest)
		}
	}
}

// Is1: registers that are none, and those of parts that the Op does not have.
func TestRegistersThatAreNone(t *testing.T) {
	beyond := []int{math.MinInt, -1 << 32, -256, -16, -15, -1, 16, 17, 31, 32, 255, 256, 1 << 16, 1 << 32, 1<<32 + 1, math.MaxInt}
	for _, s := range shapes() {
		x := api.Ins{Op: s.op, Imm: int32(s.greatest)}
		for _, p := range places {
			for _, r := range beyond {
				wantRefused(t, withPart(x, p.letter, r))
			}
			for r := 1; r <= 15; r++ {
				if !strings.Contains(s.has, p.letter) {
					wantRefused(t, withPart(x, p.letter, r))
				}
			}
		}
	}
}

// Is1: an Imm that is one or far beyond its range; of an Op without it, any but 0.
func TestImmsBeyondTheirRange(t *testing.T) {
	for _, s := range shapes() {
		list := []int64{s.least - 1, s.least - 2, s.greatest + 1, s.greatest + 2, s.least - 1<<16, s.greatest + 1<<16, s.least - 1<<24, s.greatest + 1<<24, math.MinInt32, math.MinInt32 + 1, math.MaxInt32 - 1, math.MaxInt32}
		for _, i := range list {
			for _, x := range []api.Ins{{Op: s.op}, withPart(api.Ins{Op: s.op}, s.has[:min(1, len(s.has))], 15)} {
				x.Imm = int32(i)
				wantRefused(t, x)
			}
		}
	}
	wantRefused(t, api.Ins{Op: api.InsTrap})
	wantRefused(t, api.Ins{Op: api.InsTrap, Imm: 6})
	wantRefused(t, api.Ins{Op: api.InsHigh, Imm: -1})
	wantRefused(t, api.Ins{Op: api.InsHigh, Imm: 65536})
	wantRefused(t, api.Ins{Op: api.InsLow, Imm: 65535})
}

// Is1: words in which a bit is set that their Op leaves 0, one at a time and all of them.
func TestWordsWhoseRestIsNotZero(t *testing.T) {
	for _, s := range shapes() {
		used := uint32(1<<s.bits - 1)
		for _, p := range places {
			if strings.Contains(s.has, p.letter) {
				used |= 15 << p.bit
			}
		}
		good := uint32(s.op)<<24 | uint32(s.greatest)
		all := good
		for bit := range 24 {
			if one := uint32(1) << bit; used&one == 0 {
				wantNoWord(t, good|one)
				all |= one
			}
		}
		if all != good {
			wantNoWord(t, all)
		}
	}
	for _, w := range []uint32{0, 0x01123001, 0x01123800, 0x21510001, 0x22410001, 0x27190000, 0x28100000, 0x2B1E0000, 0x2B0E0001, 0x2C610000, 0x2C600001, 0x2D160000, 0x2E000000, 0x2E000006, 0x2E00FFFF, 0x2E010003, 0x2E100003, 0x2F0F8000} {
		wantNoWord(t, w)
	}
}

// Is3: of words spread over all there are, each that is an instruction's comes back from it.
func TestWordsComeBack(t *testing.T) {
	found := 0
	for op := range uint32(64) {
		for step := range uint32(1 << 12) {
			for _, w := range []uint32{op<<24 | step<<12, op<<24 | step*4099%(1<<24), op<<24 | step} {
				x, e := Decode(w)
				if e != api.OK {
					wantNoWord(t, w)
					continue
				}
				found++
				if back, e := Encode(x); back != w || e != api.OK {
					t.Fatalf("%08x: %+v, and back %08x, %d", w, x, back, e)
				}
			}
		}
	}
	if found < 100000 {
		t.Errorf("only %d words were instructions", found)
	}
}

// Is2: every Op, with all its registers unlike, alike, and 0.
func TestReadsAndWrites(t *testing.T) {
	for _, s := range shapes() {
		for _, x := range mayBe(s) {
			var reads []int
			for _, p := range places {
				if r := registerOf(x, p.letter); strings.Contains(s.reads, p.letter) && !slices.Contains(reads, r) {
					reads = append(reads, r)
				}
			}
			if l := Reads(x); !slices.Equal(l, reads) {
				t.Fatalf("Reads(%+v): %v, not %v", x, l, reads)
			}
			writes := map[string]int{"D": x.D, "L": 14, "": -1}[s.writes]
			if r := Writes(x); r != writes {
				t.Fatalf("Writes(%+v): %d, not %d", x, r, writes)
			}
		}
	}
}

// Is2: what is read and written, written out: the order D, A, B, each once, and register 0 too.
func TestReadsAndWritesWrittenOut(t *testing.T) {
	for _, c := range []struct {
		x      api.Ins
		reads  []int
		writes int
	}{
		{api.Ins{Op: api.AluSub, D: 1, A: 9, B: 3}, []int{9, 3}, 1},
		{api.Ins{Op: api.AluMul, D: 2, A: 2, B: 2}, []int{2}, 2},
		{api.Ins{Op: api.AluAdd}, []int{0}, 0},
		{api.Ins{Op: api.AluAdd, A: 5}, []int{5, 0}, 0},
		{api.Ins{Op: api.InsHigh, D: 7, Imm: 1}, []int{7}, 7},
		{api.Ins{Op: api.InsLow, D: 7, Imm: 1}, nil, 7},
		{api.Ins{Op: api.InsStore4, D: 8, A: 4}, []int{8, 4}, -1},
		{api.Ins{Op: api.InsStore1, D: 4, A: 4}, []int{4}, -1},
		{api.Ins{Op: api.InsLoad4, D: 8, A: 4}, []int{4}, 8},
		{api.Ins{Op: api.InsZero}, []int{0}, -1},
		{api.Ins{Op: api.InsJump, Imm: 1}, nil, -1},
		{api.Ins{Op: api.InsCall, Imm: -1}, nil, 14},
		{api.Ins{Op: api.InsReturn, A: 14}, []int{14}, -1},
		{api.Ins{Op: api.InsGet, D: 3}, nil, 3},
		{api.Ins{Op: api.InsPut, A: 3}, []int{3}, -1},
		{api.Ins{Op: api.InsHalt, A: 3}, []int{3}, -1},
		{api.Ins{Op: api.InsTrap, Imm: 2}, nil, -1},
	} {
		if l := Reads(c.x); !slices.Equal(l, c.reads) {
			t.Errorf("Reads(%+v): %v, not %v", c.x, l, c.reads)
		}
		if r := Writes(c.x); r != c.writes {
			t.Errorf("Writes(%+v): %d, not %d", c.x, r, c.writes)
		}
	}
}

// R3: what was told of one instruction is not touched by what is told of the next.
func TestReadsAreNewMemory(t *testing.T) {
	x := api.Ins{Op: api.AluAdd, D: 1, A: 2, B: 3}
	first := Reads(x)
	second := Reads(x)
	for i := range second[:cap(second)] {
		second[:cap(second)][i] = 99
	}
	if !slices.Equal(first, []int{2, 3}) || !slices.Equal(Reads(x), []int{2, 3}) {
		t.Errorf("%v: a list is shared", first)
	}
}

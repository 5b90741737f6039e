package asm

import (
	"math"
	"math/bits"
	"math/rand"
	"slices"
	"testing"

	"crucible/api"
	"crucible/isa"
)

const greatest = 1<<15 - 1 // the greatest Imm of a short branch

func label(n int) api.Line {
	return api.Line{Label: n}
}

func ins(op, d, a, b int, imm int32) api.Line {
	return api.Line{Ins: api.Ins{Op: op, D: d, A: a, B: b, Imm: imm}}
}

func zero(a, to int) api.Line {
	return api.Line{Ins: api.Ins{Op: api.InsZero, A: a}, To: to}
}

func not(a, to int) api.Line {
	return api.Line{Ins: api.Ins{Op: api.InsNot, A: a}, To: to}
}

func jump(to int) api.Line {
	return api.Line{Ins: api.Ins{Op: api.InsJump}, To: to}
}

func call(to int) api.Line {
	return api.Line{Ins: api.Ins{Op: api.InsCall}, To: to}
}

// puts is so many instructions without To.
func puts(n int) []api.Line {
	return slices.Repeat([]api.Line{ins(api.InsPut, 0, 1, 0, 0)}, n)
}

// lines is all of these, one behind the other: each a line, or a list of them.
func lines(parts ...any) []api.Line {
	var l []api.Line
	for _, p := range parts {
		switch p := p.(type) {
		case api.Line:
			l = append(l, p)
		case []api.Line:
			l = append(l, p...)
		}
	}
	return l
}

// words is a code's words.
func words(t *testing.T, code string) []uint32 {
	t.Helper()
	if len(code)%4 != 0 {
		t.Fatalf("%d bytes are no words", len(code))
	}
	var list []uint32
	for k := 0; k < len(code); k += 4 {
		list = append(list, uint32(code[k])|uint32(code[k+1])<<8|uint32(code[k+2])<<16|uint32(code[k+3])<<24)
	}
	return list
}

// assembled is the words of lines that may be.
func assembled(t *testing.T, l []api.Line) []uint32 {
	t.Helper()
	if err := Check(l); err != api.OK {
		t.Fatalf("Check: %d", err)
	}
	code, err := Assemble(l)
	if err != api.OK {
		t.Fatalf("Assemble: %d", err)
	}
	return words(t, code)
}

// As1: the code of lines, word by word.
func TestAssembleWords(t *testing.T) {
	for _, c := range []struct {
		name string
		l    []api.Line
		want []uint32
	}{
		{"no line", nil, nil},
		{"an empty list", []api.Line{}, nil},
		{"labels alone", lines(label(3), label(1), label(2)), nil},
		{"an instruction of each shape", lines(
			ins(api.AluAdd, 1, 2, 3, 0), ins(api.InsAddI, 4, 5, 0, -1), ins(api.InsLow, 6, 0, 0, -2),
			ins(api.InsHigh, 7, 0, 0, 0xFFFF), ins(api.InsStore1, 8, 9, 0, 16), ins(api.InsReturn, 0, 14, 0, 0),
			ins(api.InsGet, 10, 0, 0, 0), ins(api.InsTrap, 0, 0, 0, 5), ins(api.InsHalt, 0, 11, 0, 0)),
			[]uint32{0x01123000, 0x2045FFFF, 0x2160FFFE, 0x2270FFFF, 0x26890010, 0x2B0E0000, 0x2CA00000, 0x2E000005, 0x2F0B0000}},
		{"leading ones without To", lines(
			ins(api.InsZero, 0, 1, 0, -32768), ins(api.InsNot, 0, 2, 0, 32767), ins(api.InsJump, 0, 0, 0, 1<<23-1), ins(api.InsCall, 0, 0, 0, -1<<23)),
			[]uint32{0x27018000, 0x28027FFF, 0x297FFFFF, 0x2A800000}},
		{"the document's example", lines(label(1), ins(api.InsAddI, 1, 1, 0, -1), not(1, 1)), []uint32{0x2011FFFF, 0x2801FFFE}},
		{"forward", lines(zero(3, 9), not(4, 9), jump(9), call(9), puts(1), label(9)),
			[]uint32{0x27030004, 0x28040003, 0x29000002, 0x2A000001, 0x2D010000}},
		{"back", lines(label(9), puts(1), zero(3, 9), not(4, 9), jump(9), call(9)),
			[]uint32{0x2D010000, 0x2703FFFE, 0x2804FFFD, 0x29FFFFFC, 0x2AFFFFFB}},
		{"right behind", lines(zero(1, 1), label(1), not(2, 2), label(2), jump(3), label(3), call(4), label(4)),
			[]uint32{0x27010000, 0x28020000, 0x29000000, 0x2A000000}},
		{"at itself", lines(label(1), zero(1, 1), label(2), not(2, 2), label(3), jump(3), label(4), call(4)),
			[]uint32{0x2701FFFF, 0x2802FFFF, 0x29FFFFFF, 0x2AFFFFFF}},
		{"several labels at one place", lines(label(5), label(2), jump(7), jump(2), jump(5), label(7), label(6), jump(6)),
			[]uint32{0x29000002, 0x29FFFFFE, 0x29FFFFFD, 0x29FFFFFF}},
		{"register 0 and 15", lines(zero(0, 1), not(15, 1), label(1)), []uint32{0x27000001, 0x280F0000}},
	} {
		if got := assembled(t, c.l); !slices.Equal(got, c.want) {
			t.Errorf("%s: %08X, not %08X", c.name, got, c.want)
		}
	}
}

// As1: the bytes of a word stand the lowest first.
func TestAssembleBytes(t *testing.T) {
	code, err := Assemble(lines(label(7), puts(1), not(1, 7), call(7)))
	if want := "\x00\x00\x01\x2d\xfe\xff\x01\x28\xfd\xff\xff\x2a"; code != want || err != api.OK {
		t.Errorf("%q, %d", code, err)
	}
}

// As1: short while Imm is of 16 bits, and one word more makes two words of the branch, both ways and of both kinds.
func TestShortAndLong(t *testing.T) {
	for _, c := range []struct {
		name  string
		l     []api.Line
		at    int // which words are the branch's
		want  []uint32
		total int
	}{
		{"zero, forward, the greatest", lines(zero(2, 1), puts(greatest), label(1)), 0, []uint32{0x27027FFF}, greatest + 1},
		{"zero, forward, one more", lines(zero(2, 1), puts(greatest+1), label(1)), 0, []uint32{0x28020001, 0x29008000}, greatest + 3},
		{"not, forward, the greatest", lines(not(3, 1), puts(greatest), label(1)), 0, []uint32{0x28037FFF}, greatest + 1},
		{"not, forward, one more", lines(not(3, 1), puts(greatest+1), label(1)), 0, []uint32{0x27030001, 0x29008000}, greatest + 3},
		{"zero, back, the least", lines(label(1), puts(greatest), zero(2, 1)), greatest, []uint32{0x27028000}, greatest + 1},
		{"zero, back, one more", lines(label(1), puts(greatest+1), zero(2, 1)), greatest + 1, []uint32{0x28020001, 0x29FF7FFE}, greatest + 3},
		{"not, back, the least", lines(label(1), puts(greatest), not(15, 1)), greatest, []uint32{0x280F8000}, greatest + 1},
		{"not, back, one more", lines(label(1), puts(greatest+1), not(15, 1)), greatest + 1, []uint32{0x270F0001, 0x29FF7FFE}, greatest + 3},
		{"the document's 40000", lines(not(1, 1), puts(40000), label(1)), 0, []uint32{0x27010001, 0x29009C40}, 40002},
		{"a jump is one word", lines(jump(1), puts(40000), label(1)), 0, []uint32{0x29009C40}, 40001},
		{"a call is one word", lines(label(1), puts(40000), call(1)), 40000, []uint32{0x2AFF63BF}, 40001},
	} {
		got := assembled(t, c.l)
		if len(got) != c.total || !slices.Equal(got[c.at:c.at+len(c.want)], c.want) {
			t.Errorf("%s: %d words, %08X", c.name, len(got), got[c.at:min(len(got), c.at+len(c.want))])
		}
	}
}

// As1: a branch that becomes long pushes another one too far, and that one a third.
func TestPushed(t *testing.T) {
	for _, c := range []struct {
		last int
		want []uint32
	}{
		{1, []uint32{0x27017FFE, 0x28027FFF, 0x27037FFF}},
		{2, []uint32{0x28010001, 0x29008000, 0x27020001, 0x29008000, 0x28030001, 0x29008000}},
	} {
		// Each reaches while those behind it are short: the third alone is too far, if last is 2.
		l := lines(zero(1, 1), not(2, 2), zero(3, 3), puts(greatest-3), label(1), puts(2), label(2), puts(c.last), label(3))
		got := assembled(t, l)
		if !slices.Equal(got[:len(c.want)], c.want) || len(got) != len(c.want)+greatest-1+c.last {
			t.Errorf("%d words, %08X, not %08X", len(got), got[:len(c.want)], c.want)
		}
		// The same from behind.
		l = lines(label(3), puts(c.last), label(2), puts(2), label(1), puts(greatest-3), zero(3, 3), not(2, 2), zero(1, 1))
		got = assembled(t, l)
		got = got[len(got)-len(c.want):]
		want := []uint32{0x27038000, 0x28028000, 0x27018001}
		if c.last == 2 {
			want = []uint32{0x28030001, 0x29FF7FFE, 0x27020001, 0x29FF7FFE, 0x28010001, 0x29FF7FFE}
		}
		if !slices.Equal(got, want) {
			t.Errorf("from behind: %08X, not %08X", got, want)
		}
	}
}

// As1: what is no line.
func TestNoLine(t *testing.T) {
	for _, x := range []api.Line{
		{},
		{Label: -1},
		{Label: math.MinInt},
		{Label: 2, To: 1},
		{Label: 2, To: -1},
		{Label: 2, Ins: api.Ins{Op: api.InsPut, A: 1}},
		{Label: 2, Ins: api.Ins{Op: api.InsJump}, To: 1},
		{Label: 2, Ins: api.Ins{D: 1}},
		{Label: 2, Ins: api.Ins{A: 1}},
		{Label: 2, Ins: api.Ins{B: 1}},
		{Label: 2, Ins: api.Ins{Imm: 1}},
		{Label: -2, Ins: api.Ins{Op: api.InsPut, A: 1}},
		{To: 1},
		{Ins: api.Ins{Op: api.InsJump}, To: -1},
		{Ins: api.Ins{Op: api.InsZero, A: 1}, To: math.MinInt},
		{Ins: api.Ins{Op: 20}},
		{Ins: api.Ins{Op: -1}},
		{Ins: api.Ins{Op: api.InsHalt + 1}},
		{Ins: api.Ins{Op: api.InsPut, A: 16}},
		{Ins: api.Ins{Op: api.InsPut, A: -1}},
		{Ins: api.Ins{Op: api.InsPut, D: 1}},
		{Ins: api.Ins{Op: api.InsTrap}},
		{Ins: api.Ins{Op: api.InsZero, A: 1, Imm: 1 << 15}},
		{Ins: api.Ins{Op: api.InsJump, Imm: 1 << 23}},
		{Ins: api.Ins{Op: api.InsZero, A: 16}, To: 1},
		{Ins: api.Ins{Op: api.InsNot, A: 1, B: 1}, To: 1},
		{Ins: api.Ins{Op: api.InsJump, A: 1}, To: 1},
		{Ins: api.Ins{Op: api.InsCall, D: 14}, To: 1},
		{Ins: api.Ins{Op: api.InsZero, A: 1, Imm: 1}, To: 1},
		{Ins: api.Ins{Op: api.InsNot, A: 1, Imm: -1}, To: 1},
		{Ins: api.Ins{Op: api.InsJump, Imm: 1}, To: 1},
		{Ins: api.Ins{Op: api.InsCall, Imm: -1}, To: 1},
		{Ins: api.Ins{Op: api.InsPut, A: 1}, To: 1},
		{Ins: api.Ins{Op: api.InsReturn, A: 14}, To: 1},
		{Ins: api.Ins{Op: api.AluAdd}, To: 1},
		{Ins: api.Ins{Op: api.InsAddI}, To: 1},
		{Ins: api.Ins{Op: api.InsTrap, Imm: 1}, To: 1},
	} {
		refuse(t, lines(label(1), x), api.ErrArg)
		refuse(t, lines(x, label(1)), api.ErrArg)
	}
}

// As1: with To just these four may be.
func TestWhichLead(t *testing.T) {
	for op := -1; op < 80; op++ {
		want := api.ErrArg
		if op == api.InsZero || op == api.InsNot || op == api.InsJump || op == api.InsCall {
			want = api.OK
		}
		if err := Check(lines(label(1), api.Line{Ins: api.Ins{Op: op}, To: 1})); err != want {
			t.Errorf("Op %d: %d, not %d", op, err, want)
		}
	}
}

// refuse asks all calls, with labels that stand and ones that don't, for one error.
func refuse(t *testing.T, l []api.Line, want api.Errno) {
	t.Helper()
	if err := Check(l); err != want {
		t.Errorf("Check: %d, not %d", err, want)
	}
	refuseCode(t, l, want)
}

func refuseCode(t *testing.T, l []api.Line, want api.Errno) {
	t.Helper()
	if code, err := Assemble(l); code != "" || err != want {
		t.Errorf("Assemble: %d bytes, %d, not %d", len(code), err, want)
	}
	for _, n := range []int{-1, 0, 1, 2, 1 << 40} {
		if at, err := Place(l, n); at != 0 || err != want {
			t.Errorf("Place of %d: %d, %d, not %d", n, at, err, want)
		}
	}
}

// As1: labels that stand twice, or not at all.
func TestLabels(t *testing.T) {
	for _, l := range [][]api.Line{
		lines(label(1), label(1)),
		lines(label(1), puts(3), label(2), label(1)),
		lines(label(math.MaxInt), label(math.MaxInt)),
		lines(jump(1)),
		lines(zero(1, 2), label(1)),
		lines(label(1), not(1, math.MaxInt)),
		lines(label(2), call(1)),
		lines(label(1<<32+1), jump(1)),
	} {
		refuse(t, l, api.ErrLabel)
	}
}

// R2: of several errors the one that is named first.
func TestWhichError(t *testing.T) {
	bad := ins(99, 0, 0, 0, 0)
	refuse(t, lines(label(1), label(1), bad), api.ErrArg)
	refuse(t, lines(jump(5), bad), api.ErrArg)
	refuse(t, slices.Repeat([]api.Line{bad}, api.MaxAsm+1), api.ErrLong)
	refuse(t, slices.Repeat([]api.Line{label(1)}, api.MaxAsm+1), api.ErrLong)
	refuse(t, slices.Repeat([]api.Line{bad}, api.MaxAsm), api.ErrArg)
	refuse(t, slices.Repeat([]api.Line{label(1)}, api.MaxAsm), api.ErrLabel)
	// Too much code comes behind what Check refuses, and ahead of a label that does not stand.
	far := lines(zero(1, 1), puts(api.MaxAsm-3), label(1), label(2))
	if len(far) != api.MaxAsm {
		t.Fatal("the test is wrong")
	}
	far[api.MaxAsm-1] = label(1)
	refuse(t, far, api.ErrLabel)
}

// As1: 2^18 lines, and code of just 2^20 bytes; one more of each.
func TestLimits(t *testing.T) {
	full := puts(api.MaxAsm)
	if got := assembled(t, full); len(got) != api.MaxImage/4 || got[len(got)-1] != 0x2D010000 {
		t.Errorf("%d words", len(got))
	}
	refuse(t, puts(api.MaxAsm+1), api.ErrLong)

	// A label and a long branch: as many words as lines.
	just := lines(zero(1, 1), puts(api.MaxAsm-2), label(1))
	if got := assembled(t, just); len(got) != api.MaxImage/4 || got[0] != 0x28010001 || got[1] != 0x2903FFFE {
		t.Errorf("%d words, %08X", len(got), got[:2])
	}
	if at, err := Place(just, 1); at != api.MaxImage || err != api.OK {
		t.Errorf("%d, %d", at, err)
	}
	// Two long ones and one label are one word too many, though the lines may be.
	over := lines(zero(1, 1), not(1, 1), puts(api.MaxAsm-3), label(1))
	if err := Check(over); err != api.OK {
		t.Errorf("Check: %d", err)
	}
	refuseCode(t, over, api.ErrLong)

	labels := make([]api.Line, api.MaxAsm)
	for k := range labels {
		labels[k] = label(k + 1)
	}
	if got := assembled(t, labels); len(got) != 0 {
		t.Errorf("%d words", len(got))
	}
}

// As2: each label's place, with long branches ahead of it and behind it.
func TestPlace(t *testing.T) {
	l := lines(label(10), zero(1, 30), label(20), puts(3), label(21), label(22), puts(greatest), label(30), not(2, 10), label(40), puts(2), label(50))
	// Both branches are long.
	end := 4 * (2 + 3 + greatest + 2 + 2)
	for n, want := range map[int]int{10: 0, 20: 8, 21: 20, 22: 20, 30: 4 * (5 + greatest), 40: 4 * (7 + greatest), 50: end} {
		if at, err := Place(l, n); at != want || err != api.OK {
			t.Errorf("label %d: %d, %d, not %d", n, at, err, want)
		}
	}
	if code, err := Assemble(l); len(code) != end || err != api.OK {
		t.Errorf("%d bytes, %d", len(code), err)
	}
	for _, n := range []int{0, -1, -10, 1, 11, 51, math.MaxInt, math.MinInt, 1<<32 + 10} {
		if at, err := Place(l, n); at != 0 || err != api.ErrNone {
			t.Errorf("label %d: %d, %d", n, at, err)
		}
	}
	for _, n := range []int{0, 1, -1} {
		if at, err := Place(nil, n); at != 0 || err != api.ErrNone {
			t.Errorf("label %d of nothing: %d, %d", n, at, err)
		}
	}
	if at, err := Place(lines(label(math.MaxInt)), math.MaxInt); at != 0 || err != api.OK {
		t.Errorf("%d, %d", at, err)
	}
}

// modelLong is which lines are long, by the document's rounds: all short ones that can't be become long, again and again.
func modelLong(l []api.Line) []bool {
	long := make([]bool, len(l))
	for {
		var change []int
		at, places := modelPlaces(l, long)
		for k, x := range l {
			if x.To != 0 && (x.Ins.Op == api.InsZero || x.Ins.Op == api.InsNot) && !long[k] {
				if d := places[x.To] - (at[k] + 1); d < -32768 || d > 32767 {
					change = append(change, k)
				}
			}
		}
		if len(change) == 0 {
			return long
		}
		for _, k := range change {
			long[k] = true
		}
	}
}

// modelPlaces is where lines and labels lie, in words.
func modelPlaces(l []api.Line, long []bool) ([]int, map[int]int) {
	at, places, n := make([]int, len(l)), map[int]int{}, 0
	for k, x := range l {
		at[k] = n
		switch {
		case x.Label != 0:
			places[x.Label] = n
		case long[k]:
			n += 2
		default:
			n++
		}
	}
	return at, places
}

// follow holds the code against the lines, by what its instructions do: where each goes on.
func follow(t *testing.T, l []api.Line, long []bool) {
	t.Helper()
	code := assembled(t, l)
	at, places := modelPlaces(l, long)
	for k, x := range l {
		if x.Label != 0 {
			continue
		}
		y, err := isa.Decode(code[at[k]])
		switch {
		case err != api.OK:
			t.Fatalf("line %d: %08X is none", k, code[at[k]])
		case x.To == 0:
			if y != x.Ins {
				t.Fatalf("line %d: %+v, not %+v", k, y, x.Ins)
			}
		case long[k]:
			z, _ := isa.Decode(code[at[k]+1])
			other := api.InsZero + api.InsNot - x.Ins.Op
			if y != (api.Ins{Op: other, A: x.Ins.A, Imm: 1}) || z != (api.Ins{Op: api.InsJump, Imm: int32(places[x.To] - at[k] - 2)}) {
				t.Fatalf("line %d is long: %+v, %+v", k, y, z)
			}
		default:
			want := x.Ins
			want.Imm = int32(places[x.To] - at[k] - 1)
			if y != want {
				t.Fatalf("line %d: %+v, not %+v", k, y, want)
			}
		}
	}
}

// followPlaces holds some labels' places against the lines.
func followPlaces(t *testing.T, r *rand.Rand, l []api.Line, long []bool) {
	t.Helper()
	_, places := modelPlaces(l, long)
	for range 10 {
		n := 1 + r.Intn(len(places))
		if at, err := Place(l, n); at != 4*places[n] || err != api.OK {
			t.Fatalf("label %d: %d, %d, not %d", n, at, err, 4*places[n])
		}
	}
}

// crowd is random lines with branches and labels in swarms, so far from each other that some branches just reach.
func crowd(r *rand.Rand, swarms, branches, filling int) []api.Line {
	var l []api.Line
	var to []int
	n := 0
	for range swarms {
		for range branches {
			n++
			to = append(to, n)
			l = append(l, label(n))
			l = append(l, api.Line{Ins: api.Ins{Op: api.InsZero + r.Intn(2), A: r.Intn(16)}, To: -1})
			if r.Intn(8) == 0 {
				l = append(l, api.Line{Ins: api.Ins{Op: api.InsJump + r.Intn(2)}, To: -1})
			}
		}
		l = append(l, puts(filling+r.Intn(branches))...)
	}
	for k := range l {
		if l[k].To == -1 {
			l[k].To = to[r.Intn(len(to))]
		}
	}
	return l
}

// As1, As3: random lines against the document's rounds.
func TestRandomLines(t *testing.T) {
	r := rand.New(rand.NewSource(6))
	some := 0
	for range 25 {
		branches := 20 + r.Intn(200)
		l := crowd(r, 2+r.Intn(4), branches, greatest-branches-r.Intn(branches))
		long := modelLong(l)
		for _, x := range long {
			if x {
				some++
			}
		}
		follow(t, l, long)
		followPlaces(t, r, l, long)
	}
	if some < 1000 {
		t.Errorf("only %d were long: the test asks too little", some)
	}
}

// rounds is lines of n branches of which each but the last can be short till the very last of all that it leads over is long.
func rounds(n int) []api.Line {
	const half = 1 << 14
	labels := map[int][]int{} // by how many instructions lie ahead
	for k := range n {
		// So many branches behind it, and as many words beside their first ones that it is just too far when all have two.
		over := min(half, n-1-k)
		place := k + 1 + over + 2*(half-over)
		labels[place] = append(labels[place], k+1)
	}
	var l []api.Line
	for k := range n + 2*half {
		for _, m := range labels[k] {
			l = append(l, label(m))
		}
		if k < n {
			l = append(l, api.Line{Ins: api.Ins{Op: api.InsZero + k%2, A: k % 16}, To: k + 1})
		} else {
			l = append(l, ins(api.InsPut, 0, 1, 0, 0))
		}
	}
	for _, m := range labels[n+2*half] {
		l = append(l, label(m))
	}
	return l
}

// As1, As3: as many rounds as there are branches.
func TestManyRounds(t *testing.T) {
	l := rounds(100)
	long := modelLong(l)
	if n := countTrue(long); n != 100 {
		t.Errorf("%d long ones: the test asks too little", n)
	}
	follow(t, l, long)
	// Without the last put but one nothing is too far.
	l = slices.Delete(l, len(l)-2, len(l)-1)
	follow(t, l, make([]bool, len(l)))
}

// R1: a call ends soon even at as many rounds as lines can make; the code is as long as it may be.
func TestMostRounds(t *testing.T) {
	l := rounds(api.MaxAsm/2 - 1<<14)
	if len(l) != api.MaxAsm {
		t.Fatalf("%d lines: the test is wrong", len(l))
	}
	if code := assembled(t, l); len(code) != api.MaxImage/4 {
		t.Errorf("%d words", len(code))
	}
}

// As3: no choice of long ones at all has fewer.
func TestFewest(t *testing.T) {
	r := rand.New(rand.NewSource(7))
	some := 0
	for range 40 {
		l := crowd(r, 3, 3, greatest-6)
		code := assembled(t, l)
		short := make([]bool, len(l))
		at, places := modelPlaces(l, short)
		var list []api.Line
		var from []int
		for k, x := range l {
			if x.To != 0 && (x.Ins.Op == api.InsZero || x.Ins.Op == api.InsNot) {
				list, from = append(list, x), append(from, at[k])
			}
		}
		fewest := math.MaxInt
		for choice := range 1 << len(list) {
			if n := bits.OnesCount(uint(choice)); n < fewest && allReach(list, from, places, choice) {
				fewest = n
			}
		}
		some += fewest
		if got := len(code) - countInstructions(l); got != fewest {
			t.Errorf("%d are long, but %d will do", got, fewest)
		}
	}
	if some < 40 {
		t.Errorf("only %d were long: the test asks too little", some)
	}
}

func countInstructions(l []api.Line) int {
	n := 0
	for _, x := range l {
		if x.Label == 0 {
			n++
		}
	}
	return n
}

// allReach tells whether all short ones may be, if those are long whose bits the choice has. (from and places are of code without long ones.)
func allReach(list []api.Line, from []int, places map[int]int, choice int) bool {
	more := func(place int) int {
		n := place
		for k := range list {
			if from[k] < place {
				n += choice >> k & 1
			}
		}
		return n
	}
	for k, x := range list {
		if d := more(places[x.To]) - (more(from[k]) + 1); choice>>k&1 == 0 && (d < -32768 || d > 32767) {
			return false
		}
	}
	return true
}

func countTrue(list []bool) int {
	n := 0
	for _, x := range list {
		if x {
			n++
		}
	}
	return n
}

// As3: other numbers for the labels, the same code and places.
func TestNumbersDoNotMatter(t *testing.T) {
	r := rand.New(rand.NewSource(8))
	l := crowd(r, 3, 50, greatest-60)
	other := slices.Clone(l)
	name := func(n int) int {
		if n == 0 {
			return 0
		}
		return math.MaxInt - 12345*n
	}
	for k := range other {
		other[k].Label, other[k].To = name(other[k].Label), name(other[k].To)
	}
	a, _ := Assemble(l)
	b, err := Assemble(other)
	if a != b || err != api.OK || a == "" {
		t.Errorf("%d and %d bytes, %d", len(a), len(b), err)
	}
	for n := 1; n <= 150; n++ {
		p, _ := Place(l, n)
		if q, err := Place(other, name(n)); p != q || err != api.OK {
			t.Errorf("label %d: %d and %d, %d", n, p, q, err)
		}
	}
}

// R3, R4: what is handed in is not changed, its spare room neither; the same is told again.
func TestNothingIsChanged(t *testing.T) {
	l := lines(not(1, 2), puts(greatest+1), label(2), zero(1, 2), jump(2), puts(5))
	was := slices.Clone(l)
	l = l[:len(l)-3]
	first, _ := Assemble(l)
	at, _ := Place(l, 2)
	for range 3 {
		code, err := Assemble(l)
		if code != first || err != api.OK || Check(l) != api.OK {
			t.Errorf("%d bytes, %d", len(code), err)
		}
		if again, _ := Place(l, 2); again != at {
			t.Errorf("%d, not %d", again, at)
		}
	}
	if !slices.Equal(l[:cap(l)][:len(was)], was) {
		t.Error("the lines were changed")
	}
}

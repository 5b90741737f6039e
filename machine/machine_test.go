package machine

import (
	"math"
	"strings"
	"testing"

	"crucible/api"
	"crucible/isa"
	"crucible/word"
)

// state is all that can be asked of a machine.
type state struct {
	pc    int
	regs  [16]uint32
	mem   string
	end   api.End
	ended bool
}

func look(t *testing.T, m *Machine) state {
	t.Helper()
	s := state{pc: m.Pc(), end: m.End(), ended: m.Ended()}
	for i := range s.regs {
		s.regs[i] = m.Reg(i)
	}
	mem := m.Memory()
	all, err := mem.Bytes(0, api.Memory)
	if err != api.OK || mem.Size() != api.Memory {
		t.Fatalf("the memory has %d bytes; Bytes of all: %d", mem.Size(), err)
	}
	s.mem = all
	return s
}

// beginning is the state that the chapter names, of an image that may be.
func beginning(im api.Image) state {
	s := state{pc: im.Entry, mem: im.Data + strings.Repeat("\x00", api.Memory-len(im.Data)), end: api.End{Kind: api.EndFuel}}
	s.regs[15] = 1 << 18
	return s
}

func expect(t *testing.T, name string, got, want state) {
	t.Helper()
	if got == want {
		return
	}
	for i := range want.mem {
		if got.mem[i] != want.mem[i] {
			t.Errorf("%s: the byte at %d is %d, not %d", name, i, got.mem[i], want.mem[i])
			break
		}
	}
	got.mem, want.mem = "", ""
	if got != want {
		t.Errorf("%s:\n%+v, not\n%+v", name, got, want)
	}
}

func expectEnd(t *testing.T, name string, im api.Image, input string, fuel int, want api.End) {
	t.Helper()
	if e, err := Run(im, input, fuel); e != want || err != api.OK {
		t.Errorf("%s, fuel %d: %+v, %d, not %+v", name, fuel, e, err, want)
	}
}

// laid is a text with another one laid over it.
func laid(text string, at int, s string) string {
	return text[:at] + s + text[at+len(s):]
}

func bytesOf(w uint32) string {
	return string([]byte{byte(w), byte(w >> 8), byte(w >> 16), byte(w >> 24)})
}

func encoded(t *testing.T, list ...api.Ins) string {
	t.Helper()
	var b strings.Builder
	for _, x := range list {
		w, err := isa.Encode(x)
		if err != api.OK {
			t.Fatalf("Encode(%+v): %d", x, err)
		}
		b.WriteString(bytesOf(w))
	}
	return b.String()
}

func imageOf(t *testing.T, list ...api.Ins) api.Image {
	t.Helper()
	return api.Image{Code: encoded(t, list...)}
}

func made(t *testing.T, im api.Image, input string) *Machine {
	t.Helper()
	m, err := New(im, input)
	if err != api.OK || m == nil {
		t.Fatalf("New: %v, %d", m, err)
	}
	return m
}

// steps does so many, none of which may tell that it had ended.
func steps(t *testing.T, m *Machine, n int) {
	t.Helper()
	for i := range n {
		if !m.Step() {
			t.Fatalf("step %d of %d: it has ended: %+v", i, n, m.End())
		}
	}
}

// loaded is the two instructions that bring a word into a register.
func loaded(r int, w uint32) []api.Ins {
	return []api.Ins{{Op: api.InsLow, D: r, Imm: int32(int16(w))}, {Op: api.InsHigh, D: r, Imm: int32(w >> 16)}}
}

// halts is code of so many bytes, of InsHalt alone.
func halts(t *testing.T, n int) string {
	return strings.Repeat(encoded(t, api.Ins{Op: api.InsHalt}), n/4)
}

// Ma1: images that may be, at the edges of each part.
func TestImagesThatMayBe(t *testing.T) {
	four, most := halts(t, 4), halts(t, 1<<20)
	data := strings.Repeat("\xA5\x01", 1<<15)
	for name, im := range map[string]api.Image{
		"one instruction":       {Code: four},
		"most code":             {Code: most},
		"entry at 4":            {Code: halts(t, 8), Entry: 4},
		"entry at the last":     {Code: most, Entry: 1<<20 - 4},
		"most globals":          {Code: four, Global: 1 << 16},
		"data":                  {Code: four, Global: 3, Data: "abc"},
		"less data":             {Code: four, Global: 4, Data: "abc"},
		"most data":             {Code: four, Global: 1 << 16, Data: data},
		"greatest frame":        {Code: four, Frame: 1 << 16},
		"frame 1":               {Code: four, Frame: 1},
		"words of no meaning":   {Code: "\xFF\xFF\xFF\xFF\x00\x00\x00\x00"},
		"all the edges at once": {Code: most, Global: 1 << 16, Data: data, Entry: 1<<20 - 4, Frame: 1 << 16},
	} {
		if err := Check(im); err != api.OK {
			t.Errorf("%s: Check: %d", name, err)
		}
		expect(t, name, look(t, made(t, im, "input")), beginning(im))
		if _, err := Run(im, "", 1); err != api.OK {
			t.Errorf("%s: Run: %d", name, err)
		}
	}
}

// wrongImages is images that may not be, each for one reason.
func wrongImages(t *testing.T) map[string]api.Image {
	eight := halts(t, 8)
	return map[string]api.Image{
		"nothing at all":         {},
		"no code":                {Global: 8, Data: "x", Frame: 8},
		"code of 1 byte":         {Code: "\x2F"},
		"code of 2 bytes":        {Code: eight[:2]},
		"code of 3 bytes":        {Code: eight[:3]},
		"code of 5 bytes":        {Code: eight[:5]},
		"code of 6 bytes":        {Code: eight[:6]},
		"code of 7 bytes":        {Code: eight[:7]},
		"code of 2^20 + 1":       {Code: halts(t, 1<<20) + "\x00"},
		"code of 2^20 + 4":       {Code: halts(t, 1<<20+4)},
		"code of 2^21":           {Code: halts(t, 1<<21)},
		"global -1":              {Code: eight, Global: -1},
		"the least global":       {Code: eight, Global: math.MinInt},
		"global 2^16 + 1":        {Code: eight, Global: 1<<16 + 1},
		"global 2^32":            {Code: eight, Global: 1 << 32},
		"the greatest global":    {Code: eight, Global: math.MaxInt},
		"data, no global":        {Code: eight, Data: "a"},
		"data above global":      {Code: eight, Global: 3, Data: "abcd"},
		"data above all globals": {Code: eight, Global: 1 << 16, Data: strings.Repeat("a", 1<<16+1)},
		"entry -4":               {Code: eight, Entry: -4},
		"entry -1":               {Code: eight, Entry: -1},
		"entry 1":                {Code: eight, Entry: 1},
		"entry 2":                {Code: eight, Entry: 2},
		"entry 3":                {Code: eight, Entry: 3},
		"entry 6":                {Code: eight, Entry: 6},
		"entry at the end":       {Code: eight, Entry: 8},
		"entry behind the end":   {Code: eight, Entry: 12},
		"entry 2^20":             {Code: halts(t, 1<<20), Entry: 1 << 20},
		"entry 2^32":             {Code: eight, Entry: 1 << 32},
		"the least entry":        {Code: eight, Entry: math.MinInt},
		"the greatest entry":     {Code: eight, Entry: math.MaxInt},
		"frame -1":               {Code: eight, Frame: -1},
		"the least frame":        {Code: eight, Frame: math.MinInt},
		"frame 2^16 + 1":         {Code: eight, Frame: 1<<16 + 1},
		"the greatest frame":     {Code: eight, Frame: math.MaxInt},
	}
}

// Ma1, Ma3: what may not be is refused by all three, ahead of a long input and of fuel below 0.
func TestImagesThatMayNotBe(t *testing.T) {
	long := strings.Repeat("i", 1<<20+1)
	for name, im := range wrongImages(t) {
		if err := Check(im); err != api.ErrArg {
			t.Errorf("%s: Check: %d, not ErrArg", name, err)
		}
		for _, input := range []string{"", "ab", long} {
			if m, err := New(im, input); m != nil || err != api.ErrArg {
				t.Errorf("%s: New: %v, %d, not none and ErrArg", name, m, err)
			}
			for _, fuel := range []int{-1, 0, 5} {
				if e, err := Run(im, input, fuel); e != (api.End{}) || err != api.ErrArg {
					t.Errorf("%s: Run: %+v, %d, not ErrArg", name, e, err)
				}
			}
		}
	}
}

// Ma1, Ma3: the longest input, one that is longer, and fuel below 0, which comes behind it.
func TestInputAndFuelRefused(t *testing.T) {
	im := imageOf(t, api.Ins{Op: api.InsHalt})
	tape := strings.Repeat("i", 1<<20)
	expect(t, "the longest input", look(t, made(t, im, tape)), beginning(im))
	expectEnd(t, "the longest input", im, tape, 1, api.End{Kind: api.EndExit})
	for _, long := range []string{tape + "i", tape + tape} {
		if m, err := New(im, long); m != nil || err != api.ErrLong {
			t.Errorf("New with %d bytes: %v, %d, not none and ErrLong", len(long), m, err)
		}
		for _, fuel := range []int{math.MinInt, -1, 0, 1} {
			if e, err := Run(im, long, fuel); e != (api.End{}) || err != api.ErrLong {
				t.Errorf("Run with %d bytes, fuel %d: %+v, %d, not ErrLong", len(long), fuel, e, err)
			}
		}
	}
	for _, fuel := range []int{math.MinInt, -1 << 32, -1<<32 + 1, -2, -1} {
		if e, err := Run(im, "", fuel); e != (api.End{}) || err != api.ErrArg {
			t.Errorf("Run with fuel %d: %+v, %d, not ErrArg", fuel, e, err)
		}
	}
}

// Ma1: all of the longest input can be got.
func TestLongestInputIsGot(t *testing.T) {
	im := imageOf(t,
		api.Ins{Op: api.InsGet, D: 1},
		api.Ins{Op: api.AluLt, D: 2, A: 1},
		api.Ins{Op: api.InsZero, A: 2, Imm: -3},
		api.Ins{Op: api.InsHalt, A: 1})
	want := api.End{Kind: api.EndExit, Code: -1, Used: 1 << 20}
	expectEnd(t, "read to the end", im, strings.Repeat("\xFF", 1<<20), math.MaxInt, want)
}

// given is a register that is brought to a value ahead of a step.
type given struct {
	r int
	w uint32
}

// one is an instruction that is done once, and what it turns, but that the place goes on by 4.
type one struct {
	name   string
	regs   []given
	ins    api.Ins
	input  string
	change func(s *state)
}

const minus1 = 1<<32 - 1

var someData = "\x01\x82\x03\xF4\x05\x06\x07\x88"

// try does an instruction behind those that bring the registers there, and holds all that can be asked against what must be.
func try(t *testing.T, c one) {
	t.Helper()
	var list []api.Ins
	for _, g := range c.regs {
		list = append(list, loaded(g.r, g.w)...)
	}
	im := imageOf(t, append(list, c.ins)...)
	im.Data, im.Global = someData, 16
	m := made(t, im, c.input)
	steps(t, m, len(list))
	want := beginning(im)
	want.pc = 4 * len(list)
	for _, g := range c.regs {
		want.regs[g.r] = g.w
	}
	expect(t, c.name+", ahead", look(t, m), want)
	want.pc += 4
	c.change(&want)
	steps(t, m, 1)
	expect(t, c.name, look(t, m), want)
}

func reg(r int, w uint32) func(*state) {
	return func(s *state) { s.regs[r] = w }
}

// stopped is the change of a trap: the place stays.
func stopped(kind int) func(*state) {
	return func(s *state) {
		s.pc -= 4
		s.ended, s.end.Kind, s.end.Trap = true, api.EndTrap, kind
	}
}

func nothing(*state) {}

// Ma1: every Alu, on words around which signs turn; a trap leaves D as it was.
func TestAlus(t *testing.T) {
	for op := api.AluAdd; op <= api.AluLeU; op++ {
		for _, p := range [][2]uint32{{7, 2}, {1<<32 - 7, 2}, {1 << 31, minus1}, {5, 5}, {9, 0}} {
			change := stopped(api.TrapDivide)
			if w, kind := word.Alu(op, p[0], p[1]); kind == api.TrapNone {
				change = reg(3, w)
			}
			regs := []given{{1, p[0]}, {2, p[1]}, {3, 0xDEADBEEF}}
			try(t, one{"an Alu", regs, api.Ins{Op: op, D: 3, A: 1, B: 2}, "", change})
		}
	}
	try(t, one{"a difference", []given{{1, 3}, {2, 10}}, api.Ins{Op: api.AluSub, D: 4, A: 1, B: 2}, "", reg(4, 1<<32-7)})
	try(t, one{"D is A", []given{{1, 3}, {2, 10}}, api.Ins{Op: api.AluSub, D: 1, A: 1, B: 2}, "", reg(1, 1<<32-7)})
	try(t, one{"D is B", []given{{1, 3}, {2, 10}}, api.Ins{Op: api.AluSub, D: 2, A: 1, B: 2}, "", reg(2, 1<<32-7)})
	try(t, one{"all are one", []given{{1, 3}}, api.Ins{Op: api.AluMul, D: 1, A: 1, B: 1}, "", reg(1, 9)})
}

// Ma1: sums with Imm and halves of words.
func TestConstants(t *testing.T) {
	for _, c := range []one{
		{"AddI", []given{{1, 40}}, api.Ins{Op: api.InsAddI, D: 2, A: 1, Imm: 2}, "", reg(2, 42)},
		{"AddI below 0", []given{{1, 1}}, api.Ins{Op: api.InsAddI, D: 2, A: 1, Imm: -32768}, "", reg(2, 1<<32-32767)},
		{"AddI wraps", []given{{1, minus1}}, api.Ins{Op: api.InsAddI, D: 1, A: 1, Imm: 32767}, "", reg(1, 32766)},
		{"AddI of nothing", nil, api.Ins{Op: api.InsAddI, D: 14, Imm: -1}, "", reg(14, minus1)},
		{"AddI of the stack", nil, api.Ins{Op: api.InsAddI, D: 15, A: 15, Imm: -16}, "", reg(15, 1<<18-16)},
		{"Low", []given{{1, 0xFFFFFFFF}}, api.Ins{Op: api.InsLow, D: 1, Imm: 32767}, "", reg(1, 32767)},
		{"Low below 0", []given{{1, 5}}, api.Ins{Op: api.InsLow, D: 1, Imm: -32768}, "", reg(1, 0xFFFF8000)},
		{"High", []given{{1, 0xFFFFFFFF}}, api.Ins{Op: api.InsHigh, D: 1, Imm: 0}, "", reg(1, 0xFFFF)},
		{"the greatest High", []given{{1, 0x12345678}}, api.Ins{Op: api.InsHigh, D: 1, Imm: 0xFFFF}, "", reg(1, 0xFFFF5678)},
		{"High of the stack", nil, api.Ins{Op: api.InsHigh, D: 15, Imm: 1}, "", reg(15, 1<<16)},
	} {
		try(t, c)
	}
}

// Ma1: loads, at the edges of the memory and with addresses that wrap round.
func TestLoads(t *testing.T) {
	for _, c := range []one{
		{"Load4", nil, api.Ins{Op: api.InsLoad4, D: 1}, "", reg(1, 0xF4038201)},
		{"Load4 with Imm", []given{{1, 8}}, api.Ins{Op: api.InsLoad4, D: 1, A: 1, Imm: -4}, "", reg(1, 0x88070605)},
		{"Load4 of the last word", []given{{1, 9}}, api.Ins{Op: api.InsLoad4, D: 1, A: 15, Imm: -4}, "", reg(1, 0)},
		{"Load4 wraps", []given{{1, 1<<32 - 4}}, api.Ins{Op: api.InsLoad4, D: 2, A: 1, Imm: 8}, "", reg(2, 0x88070605)},
		{"Load1", []given{{2, minus1}}, api.Ins{Op: api.InsLoad1, D: 2}, "", reg(2, 1)},
		{"Load1 without sign", nil, api.Ins{Op: api.InsLoad1, D: 2, Imm: 3}, "", reg(2, 0xF4)},
		{"Load1 with Imm below 0", []given{{3, 32775}}, api.Ins{Op: api.InsLoad1, D: 3, A: 3, Imm: -32768}, "", reg(3, 0x88)},
		{"Load1 of the last byte", []given{{1, 9}}, api.Ins{Op: api.InsLoad1, D: 1, A: 15, Imm: -1}, "", reg(1, 0)},
		{"Load1 wraps", []given{{1, minus1}}, api.Ins{Op: api.InsLoad1, D: 2, A: 1, Imm: 2}, "", reg(2, 0x82)},
		{"Load4 of no multiple", []given{{1, 77}}, api.Ins{Op: api.InsLoad4, D: 1, Imm: 2}, "", stopped(api.TrapMemory)},
		{"Load4 behind the end", []given{{1, 77}}, api.Ins{Op: api.InsLoad4, D: 1, A: 15}, "", stopped(api.TrapMemory)},
		{"Load4 across the end", []given{{1, 77}}, api.Ins{Op: api.InsLoad4, D: 1, A: 15, Imm: -2}, "", stopped(api.TrapMemory)},
		{"Load4 below 0", []given{{1, 77}}, api.Ins{Op: api.InsLoad4, D: 1, Imm: -4}, "", stopped(api.TrapMemory)},
		{"Load1 behind the end", []given{{1, 77}}, api.Ins{Op: api.InsLoad1, D: 1, A: 15}, "", stopped(api.TrapMemory)},
		{"Load1 below 0", []given{{1, 77}}, api.Ins{Op: api.InsLoad1, D: 1, Imm: -1}, "", stopped(api.TrapMemory)},
		{"Load1 far away", []given{{1, 1 << 31}}, api.Ins{Op: api.InsLoad1, D: 1, A: 1}, "", stopped(api.TrapMemory)},
	} {
		try(t, c)
	}
}

func stored(at int, s string) func(*state) {
	return func(x *state) { x.mem = laid(x.mem, at, s) }
}

// Ma1: stores, likewise; a store that is refused leaves the memory as it was.
func TestStores(t *testing.T) {
	const w = 0xA1B2C3D4
	for _, c := range []one{
		{"Store4", []given{{1, w}}, api.Ins{Op: api.InsStore4, D: 1, Imm: 4}, "", stored(4, "\xD4\xC3\xB2\xA1")},
		{"Store4 with Imm below 0", []given{{1, w}, {2, 12}}, api.Ins{Op: api.InsStore4, D: 1, A: 2, Imm: -12}, "", stored(0, "\xD4\xC3\xB2\xA1")},
		{"Store4 of the last word", []given{{1, w}}, api.Ins{Op: api.InsStore4, D: 1, A: 15, Imm: -4}, "", stored(1<<18-4, "\xD4\xC3\xB2\xA1")},
		{"Store4 wraps", []given{{1, w}, {2, 1<<32 - 8}}, api.Ins{Op: api.InsStore4, D: 1, A: 2, Imm: 16}, "", stored(8, "\xD4\xC3\xB2\xA1")},
		{"Store4 of register 0", nil, api.Ins{Op: api.InsStore4}, "", stored(0, "\x00\x00\x00\x00")},
		{"Store4 of its address", []given{{2, 20}}, api.Ins{Op: api.InsStore4, D: 2, A: 2}, "", stored(20, "\x14\x00\x00\x00")},
		{"Store1", []given{{1, w}}, api.Ins{Op: api.InsStore1, D: 1, Imm: 3}, "", stored(3, "\xD4")},
		{"Store1 of the last byte", []given{{1, w}}, api.Ins{Op: api.InsStore1, D: 1, A: 15, Imm: -1}, "", stored(1<<18-1, "\xD4")},
		{"Store1 wraps", []given{{1, w}, {2, minus1}}, api.Ins{Op: api.InsStore1, D: 1, A: 2, Imm: 1}, "", stored(0, "\xD4")},
		{"Store4 of no multiple", []given{{1, w}}, api.Ins{Op: api.InsStore4, D: 1, Imm: 1}, "", stopped(api.TrapMemory)},
		{"Store4 behind the end", []given{{1, w}}, api.Ins{Op: api.InsStore4, D: 1, A: 15}, "", stopped(api.TrapMemory)},
		{"Store4 across the end", []given{{1, w}}, api.Ins{Op: api.InsStore4, D: 1, A: 15, Imm: -1}, "", stopped(api.TrapMemory)},
		{"Store4 below 0", []given{{1, w}}, api.Ins{Op: api.InsStore4, D: 1, Imm: -4}, "", stopped(api.TrapMemory)},
		{"Store1 behind the end", []given{{1, w}}, api.Ins{Op: api.InsStore1, D: 1, A: 15}, "", stopped(api.TrapMemory)},
		{"Store1 below 0", []given{{1, w}}, api.Ins{Op: api.InsStore1, D: 1, Imm: -1}, "", stopped(api.TrapMemory)},
	} {
		try(t, c)
	}
}

func on(n int) func(*state) {
	return func(s *state) { s.pc += n }
}

// Ma1: branches that are taken and that are not, back and forward.
func TestBranches(t *testing.T) {
	called := func(n int) func(*state) {
		return func(s *state) {
			s.regs[14] = uint32(s.pc)
			s.pc += n
		}
	}
	for _, c := range []one{
		{"Zero of 0", []given{{1, 0}}, api.Ins{Op: api.InsZero, A: 1, Imm: 3}, "", on(12)},
		{"Zero of 0, back", []given{{1, 0}}, api.Ins{Op: api.InsZero, A: 1, Imm: -2}, "", on(-8)},
		{"Zero of 0, farthest back", nil, api.Ins{Op: api.InsZero, Imm: -32768}, "", on(-4 * 32768)},
		{"Zero of 0, farthest", nil, api.Ins{Op: api.InsZero, Imm: 32767}, "", on(4 * 32767)},
		{"Zero of 1", []given{{1, 1}}, api.Ins{Op: api.InsZero, A: 1, Imm: 3}, "", nothing},
		{"Zero of 2^31", []given{{1, 1 << 31}}, api.Ins{Op: api.InsZero, A: 1, Imm: 3}, "", nothing},
		{"Zero of 2^16", []given{{1, 1 << 16}}, api.Ins{Op: api.InsZero, A: 1, Imm: -3}, "", nothing},
		{"Not of 0", []given{{1, 0}}, api.Ins{Op: api.InsNot, A: 1, Imm: 3}, "", nothing},
		{"Not of register 0", nil, api.Ins{Op: api.InsNot, Imm: -1}, "", nothing},
		{"Not of 1", []given{{1, 1}}, api.Ins{Op: api.InsNot, A: 1, Imm: 3}, "", on(12)},
		{"Not of 2^31, back", []given{{1, 1 << 31}}, api.Ins{Op: api.InsNot, A: 1, Imm: -3}, "", on(-12)},
		{"Not of 2^16, by 0", []given{{1, 1 << 16}}, api.Ins{Op: api.InsNot, A: 1}, "", nothing},
		{"Jump", nil, api.Ins{Op: api.InsJump, Imm: 5}, "", on(20)},
		{"Jump by 0", nil, api.Ins{Op: api.InsJump}, "", nothing},
		{"Jump on itself", nil, api.Ins{Op: api.InsJump, Imm: -1}, "", on(-4)},
		{"Jump, farthest", nil, api.Ins{Op: api.InsJump, Imm: 1<<23 - 1}, "", on(4 * (1<<23 - 1))},
		{"Jump, farthest back", nil, api.Ins{Op: api.InsJump, Imm: -1 << 23}, "", on(-4 << 23)},
		{"Call", []given{{14, 99}}, api.Ins{Op: api.InsCall, Imm: 5}, "", called(20)},
		{"Call by 0", nil, api.Ins{Op: api.InsCall}, "", called(0)},
		{"Call back", []given{{1, 1}}, api.Ins{Op: api.InsCall, Imm: -3}, "", called(-12)},
		{"Return", []given{{14, 4}}, api.Ins{Op: api.InsReturn, A: 14}, "", func(s *state) { s.pc = 4 }},
		{"Return to register 0", nil, api.Ins{Op: api.InsReturn}, "", func(s *state) { s.pc = 0 }},
		{"Return to no multiple", []given{{3, 7}}, api.Ins{Op: api.InsReturn, A: 3}, "", func(s *state) { s.pc = 7 }},
		{"Return without sign", []given{{3, 1<<32 - 4}}, api.Ins{Op: api.InsReturn, A: 3}, "", func(s *state) { s.pc = 1<<32 - 4 }},
	} {
		try(t, c)
	}
}

// Ma1, Ma2: bytes that are got and put, and ends.
func TestInputOutputEnds(t *testing.T) {
	got := func(r int, w uint32, used int) func(*state) {
		return func(s *state) {
			s.regs[r] = w
			s.end.Used = used
		}
	}
	put := func(text string) func(*state) {
		return func(s *state) { s.end.Out = text }
	}
	exit := func(code int32) func(*state) {
		return func(s *state) {
			s.pc -= 4
			s.ended, s.end.Kind, s.end.Code = true, api.EndExit, code
		}
	}
	for _, c := range []one{
		{"Get", []given{{1, 9}}, api.Ins{Op: api.InsGet, D: 1}, "ab", got(1, 'a', 1)},
		{"Get without sign", nil, api.Ins{Op: api.InsGet, D: 2}, "\xFF", got(2, 255, 1)},
		{"Get of a byte 0", []given{{2, 9}}, api.Ins{Op: api.InsGet, D: 2}, "\x00", got(2, 0, 1)},
		{"Get behind the end", []given{{1, 9}}, api.Ins{Op: api.InsGet, D: 1}, "", got(1, minus1, 0)},
		{"Get to register 0", nil, api.Ins{Op: api.InsGet}, "ab", got(0, 0, 1)},
		{"Put", []given{{1, 'A'}}, api.Ins{Op: api.InsPut, A: 1}, "", put("A")},
		{"Put of register 0", nil, api.Ins{Op: api.InsPut}, "", put("\x00")},
		{"Put modulo 256", []given{{1, 0xFFFFFF41}}, api.Ins{Op: api.InsPut, A: 1}, "", put("A")},
		{"Put of a byte that is no letter", []given{{1, 0x1C3}}, api.Ins{Op: api.InsPut, A: 1}, "", put("\xC3")},
		{"Halt", []given{{1, 3}}, api.Ins{Op: api.InsHalt, A: 1}, "x", exit(3)},
		{"Halt below 0", []given{{1, minus1}}, api.Ins{Op: api.InsHalt, A: 1}, "", exit(-1)},
		{"Halt with the least", []given{{1, 1 << 31}}, api.Ins{Op: api.InsHalt, A: 1}, "", exit(math.MinInt32)},
		{"Halt with register 0", nil, api.Ins{Op: api.InsHalt}, "", exit(0)},
	} {
		try(t, c)
	}
	for kind := api.TrapDivide; kind <= api.TrapMemory; kind++ {
		try(t, one{"Trap", []given{{1, 3}}, api.Ins{Op: api.InsTrap, Imm: int32(kind)}, "x", stopped(kind)})
	}
}

// Ma1, Ma4: what is written to register 0 is gone, but all else of the instruction is done.
func TestRegisterZero(t *testing.T) {
	for _, c := range []one{
		{"an Alu", []given{{1, 3}, {2, 4}}, api.Ins{Op: api.AluAdd, A: 1, B: 2}, "", nothing},
		{"a division by 0", []given{{1, 3}}, api.Ins{Op: api.AluRemU, A: 1}, "", stopped(api.TrapDivide)},
		{"AddI", []given{{1, 3}}, api.Ins{Op: api.InsAddI, A: 1, Imm: 9}, "", nothing},
		{"Low", nil, api.Ins{Op: api.InsLow, Imm: 9}, "", nothing},
		{"High", nil, api.Ins{Op: api.InsHigh, Imm: 9}, "", nothing},
		{"Load4", nil, api.Ins{Op: api.InsLoad4}, "", nothing},
		{"Load4 that is refused", nil, api.Ins{Op: api.InsLoad4, Imm: 3}, "", stopped(api.TrapMemory)},
		{"Load1", nil, api.Ins{Op: api.InsLoad1, Imm: 1}, "", nothing},
		{"Load1 that is refused", nil, api.Ins{Op: api.InsLoad1, A: 15}, "", stopped(api.TrapMemory)},
		{"Get behind the end", nil, api.Ins{Op: api.InsGet}, "", nothing},
	} {
		try(t, c)
	}
}

// Ma1: registers that are none.
func TestNoSuchRegister(t *testing.T) {
	list := []api.Ins{}
	for r := range 16 {
		list = append(list, api.Ins{Op: api.InsLow, D: r, Imm: int32(100 + r)})
	}
	m := made(t, imageOf(t, list...), "")
	steps(t, m, 16)
	for r := 1; r < 16; r++ {
		if w := m.Reg(r); w != uint32(100+r) {
			t.Errorf("Reg(%d): %d", r, w)
		}
	}
	for _, r := range []int{0, math.MinInt, -1 << 32, -1<<32 + 15, -16, -15, -1, 16, 17, 31, 256 + 15, 1<<32 + 15, math.MaxInt} {
		if w := m.Reg(r); w != 0 {
			t.Errorf("Reg(%d): %d, not 0", r, w)
		}
	}
}

// Ma1: places where no instruction may begin are a trap, and the place stays there.
func TestPlacesThatAreNone(t *testing.T) {
	jump := func(n int32) []api.Ins { return []api.Ins{{Op: api.InsJump, Imm: n}, {Op: api.InsHalt}} }
	goTo := func(w uint32) []api.Ins {
		return append(loaded(1, w), api.Ins{Op: api.InsReturn, A: 1}, api.Ins{Op: api.InsHalt})
	}
	for _, c := range []struct {
		name string
		list []api.Ins
		pc   int
	}{
		{"behind the last instruction", []api.Ins{{Op: api.InsLow}}, 4},
		{"a jump to the code's end", jump(1), 8},
		{"a jump behind it", jump(2), 12},
		{"a jump far behind it", jump(1<<23 - 1), 1 << 25},
		{"a jump below 0", jump(-2), -4},
		{"a jump far below 0", jump(-1 << 23), 4 - 1<<25},
		{"InsZero below 0", []api.Ins{{Op: api.InsZero, Imm: -2}, {Op: api.InsHalt}}, -4},
		{"InsNot behind the end", []api.Ins{{Op: api.InsNot, A: 15, Imm: 1}, {Op: api.InsHalt}}, 8},
		{"a call below 0", []api.Ins{{Op: api.InsCall, Imm: -3}, {Op: api.InsHalt}}, -8},
		{"a return to 1", goTo(1), 1},
		{"a return to 2", goTo(2), 2},
		{"a return to 3", goTo(3), 3},
		{"a return to 14", goTo(14), 14},
		{"a return to the end", goTo(16), 16},
		{"a return far behind", goTo(1 << 31), 1 << 31},
		{"a return to the last place", goTo(minus1), minus1},
		{"a return to -4 without sign", goTo(1<<32 - 4), 1<<32 - 4},
	} {
		m := made(t, imageOf(t, c.list...), "")
		for m.Pc() != c.pc {
			steps(t, m, 1)
		}
		want := look(t, m)
		if want.ended {
			t.Errorf("%s: it has ended ahead of the step", c.name)
		}
		steps(t, m, 1)
		want.ended, want.end.Kind, want.end.Trap = true, api.EndTrap, api.TrapCode
		expect(t, c.name, look(t, m), want)
	}
}

// Ma1: words that are no instructions are a trap that does nothing else.
func TestWordsThatAreNone(t *testing.T) {
	for _, w := range []uint32{0, 1, minus1, 1 << 31, 0x01123001, 0x14000000, 0x1F000000, 0x30000000, 0x31000000, 0x21110005, 0x22110005, 0x27110001, 0x2B100000, 0x2C010000, 0x2D100000, 0x2D000001, 0x2E000000, 0x2E000006, 0x2E010001, 0x2F000001, 0x2F100000} {
		im := api.Image{Code: encoded(t, loaded(1, 'x')...) + bytesOf(w), Entry: 0}
		m := made(t, im, "input")
		steps(t, m, 2)
		want := look(t, m)
		steps(t, m, 1)
		want.ended, want.end.Kind, want.end.Trap = true, api.EndTrap, api.TrapCode
		expect(t, "a word that is none", look(t, m), want)
	}
}

// Ma1: a word has its lowest byte first.
func TestLowestByteFirst(t *testing.T) {
	expectEnd(t, "halt", api.Image{Code: "\x00\x00\x0F\x2F"}, "", 1, api.End{Kind: api.EndExit, Code: 1 << 18})
	expectEnd(t, "halt, turned round", api.Image{Code: "\x2F\x0F\x00\x00"}, "", 1, api.End{Kind: api.EndTrap, Trap: api.TrapCode})
	expectEnd(t, "low and halt", api.Image{Code: "\x34\x12\x10\x21\x00\x00\x01\x2F"}, "", 2, api.End{Kind: api.EndExit, Code: 0x1234})
}

// Ma1: branches to the first and to the last instruction of the longest code, and back from there.
func TestLongestCode(t *testing.T) {
	const last = 1<<20 - 4
	head := append(loaded(1, last),
		api.Ins{Op: api.InsNot, A: 3, Imm: 5},         // at 8: the second time, on to 32
		api.Ins{Op: api.InsLow, D: 3, Imm: 1},         // 12
		api.Ins{Op: api.InsReturn, A: 1},              // 16
		api.Ins{Op: api.InsTrap, Imm: api.TrapBounds}, // 20
		api.Ins{Op: api.InsTrap, Imm: api.TrapBounds}, // 24
		api.Ins{Op: api.InsTrap, Imm: api.TrapBounds}, // 28
		api.Ins{Op: api.InsLow, D: 4, Imm: -9},        // 32
		api.Ins{Op: api.InsHalt, A: 4})                // 36
	code := encoded(t, head...)
	end := encoded(t, api.Ins{Op: api.InsJump, Imm: -1 << 18})
	im := api.Image{Code: code + strings.Repeat("\x00", last-len(code)) + end}
	m := made(t, im, "")
	steps(t, m, 5)
	if m.Pc() != last {
		t.Errorf("the place is %d, not the last one", m.Pc())
	}
	steps(t, m, 1)
	if m.Pc() != 0 {
		t.Errorf("the place is %d, not 0", m.Pc())
	}
	expectEnd(t, "there and back", im, "", 100, api.End{Kind: api.EndExit, Code: -9})
	im.Entry = last
	expectEnd(t, "begun at the last", im, "", 100, api.End{Kind: api.EndExit, Code: -9})
	forward := api.Image{Code: encoded(t, api.Ins{Op: api.InsJump, Imm: 1<<18 - 2}) + strings.Repeat("\x00", last-4) + halts(t, 4)}
	expectEnd(t, "a jump to the last", forward, "", 2, api.End{Kind: api.EndExit})
}

// program is one with its input, how many steps it has, and how it ends.
type program struct {
	name  string
	im    api.Image
	input string
	steps int
	want  api.End
}

func programs(t *testing.T) []program {
	echo := imageOf(t,
		api.Ins{Op: api.InsGet, D: 1},
		api.Ins{Op: api.InsAddI, D: 2, A: 1, Imm: 1},
		api.Ins{Op: api.InsZero, A: 2, Imm: 2},
		api.Ins{Op: api.InsPut, A: 1},
		api.Ins{Op: api.InsJump, Imm: -5},
		api.Ins{Op: api.InsHalt, A: 1})
	sum := imageOf(t,
		api.Ins{Op: api.InsLow, D: 1, Imm: 10},
		api.Ins{Op: api.AluAdd, D: 2, A: 2, B: 1},
		api.Ins{Op: api.InsAddI, D: 1, A: 1, Imm: -1},
		api.Ins{Op: api.InsNot, A: 1, Imm: -3},
		api.Ins{Op: api.InsHalt, A: 2})
	call := imageOf(t,
		api.Ins{Op: api.AluMul, D: 1, A: 1, B: 1}, // the function
		api.Ins{Op: api.InsReturn, A: 14},
		api.Ins{Op: api.InsLow, D: 1, Imm: 3}, // main, at 8
		api.Ins{Op: api.InsCall, Imm: -4},
		api.Ins{Op: api.InsCall, Imm: -5},
		api.Ins{Op: api.InsHalt, A: 1})
	call.Entry = 8
	pushed := imageOf(t,
		api.Ins{Op: api.InsAddI, D: 15, A: 15, Imm: -4},
		api.Ins{Op: api.InsLow, D: 1, Imm: 321},
		api.Ins{Op: api.InsStore4, D: 1, A: 15},
		api.Ins{Op: api.InsLoad1, D: 2, A: 15, Imm: 1},
		api.Ins{Op: api.InsPut, A: 2},
		api.Ins{Op: api.InsLoad4, D: 3, A: 15},
		api.Ins{Op: api.AluDiv, D: 3, A: 3, B: 4})
	data := imageOf(t,
		api.Ins{Op: api.InsLoad1, D: 2, A: 1},
		api.Ins{Op: api.InsZero, A: 2, Imm: 3},
		api.Ins{Op: api.InsPut, A: 2},
		api.Ins{Op: api.InsAddI, D: 1, A: 1, Imm: 1},
		api.Ins{Op: api.InsJump, Imm: -5},
		api.Ins{Op: api.InsTrap, Imm: api.TrapStack})
	data.Data, data.Global = "two", 4
	return []program{
		{"the example", imageOf(t, api.Ins{Op: api.InsGet, D: 1}, api.Ins{Op: api.InsAddI, D: 1, A: 1, Imm: 1}, api.Ins{Op: api.InsPut, A: 1}, api.Ins{Op: api.InsHalt}), "a", 4, api.End{Kind: api.EndExit, Out: "b", Used: 1}},
		{"an echo", echo, "a\x00\xFFz", 24, api.End{Kind: api.EndExit, Code: -1, Out: "a\x00\xFFz", Used: 4}},
		{"an echo of nothing", echo, "", 4, api.End{Kind: api.EndExit, Code: -1}},
		{"a sum", sum, "not asked", 32, api.End{Kind: api.EndExit, Code: 55}},
		{"two calls", call, "", 8, api.End{Kind: api.EndExit, Code: 81}},
		{"a word on the stack, and a trap", pushed, "", 7, api.End{Kind: api.EndTrap, Trap: api.TrapDivide, Out: "\x01"}},
		{"data, and a trap", data, "", 18, api.End{Kind: api.EndTrap, Trap: api.TrapStack, Out: "two"}},
		{"behind the code", imageOf(t, api.Ins{Op: api.InsPut}, api.Ins{Op: api.InsGet}), "q", 3, api.End{Kind: api.EndTrap, Trap: api.TrapCode, Out: "\x00", Used: 1}},
		{"an end at once", imageOf(t, api.Ins{Op: api.InsHalt, A: 15}), "", 1, api.End{Kind: api.EndExit, Code: 1 << 18}},
	}
}

// Ma1, Ma2, Ma3: programs take as many steps as they have; with one less of fuel they have not ended.
func TestPrograms(t *testing.T) {
	for _, p := range programs(t) {
		for _, more := range []int{0, 1, 1000, math.MaxInt - p.steps} {
			expectEnd(t, p.name, p.im, p.input, p.steps+more, p.want)
		}
		expectEnd(t, p.name, p.im, p.input, 0, api.End{Kind: api.EndFuel})
		less, _ := Run(p.im, p.input, p.steps-1)
		if less != (api.End{Kind: api.EndFuel, Out: p.want.Out, Used: p.want.Used}) {
			t.Errorf("%s, one less of fuel: %+v", p.name, less)
		}
	}
}

// Ma2, Ma3, Ma4: step by step a machine tells what a run with so much fuel tells, and what was put and got only grows.
func TestStepsAndRuns(t *testing.T) {
	for _, p := range programs(t) {
		m := made(t, p.im, p.input)
		last := api.End{Kind: api.EndFuel}
		for fuel := range p.steps + 3 {
			e := m.End()
			expectEnd(t, p.name, p.im, p.input, fuel, e)
			expectEnd(t, p.name+" again", p.im, p.input, fuel, e)
			if ended := fuel >= p.steps; m.Ended() != ended || (e.Kind != api.EndFuel) != ended {
				t.Errorf("%s behind %d steps: ended: %v, %+v", p.name, fuel, m.Ended(), e)
			}
			if !strings.HasPrefix(e.Out, last.Out) || e.Used < last.Used || e.Used > len(p.input) {
				t.Errorf("%s behind %d steps: %+v behind %+v", p.name, fuel, e, last)
			}
			last = e
			if m.Step() != (fuel < p.steps) {
				t.Errorf("%s: step %d tells otherwise", p.name, fuel)
			}
		}
	}
}

// Ma1: behind the end nothing turns any more.
func TestBehindTheEnd(t *testing.T) {
	for _, p := range programs(t) {
		m := made(t, p.im, p.input)
		steps(t, m, p.steps)
		want := look(t, m)
		if want.end != p.want || !want.ended {
			t.Errorf("%s: %+v, ended: %v", p.name, want.end, want.ended)
		}
		for range 5 {
			if m.Step() {
				t.Errorf("%s: a step behind the end", p.name)
			}
			expect(t, p.name, look(t, m), want)
		}
	}
}

// Ma3: a run without end stops for want of fuel alone.
func TestForEver(t *testing.T) {
	im := imageOf(t, api.Ins{Op: api.InsPut, A: 15}, api.Ins{Op: api.InsGet}, api.Ins{Op: api.InsJump, Imm: -3})
	for _, fuel := range []int{0, 1, 2, 3, 4, 5, 6, 7, 1000, 300000} {
		want := api.End{Kind: api.EndFuel, Out: strings.Repeat("\x00", (fuel+2)/3), Used: min(2, (fuel+1)/3)}
		expectEnd(t, "for ever", im, "ab", fuel, want)
	}
}

// Ma1, Ma2: what was told stays as it was told, and what is done to it does not reach the machine.
func TestAnswersAreApart(t *testing.T) {
	im := imageOf(t, api.Ins{Op: api.InsLoad4, D: 1}, api.Ins{Op: api.InsPut, A: 1}, api.Ins{Op: api.InsStore1, Imm: 1}, api.Ins{Op: api.InsHalt, A: 1})
	im.Data, im.Global = "abcd", 4
	m, other := made(t, im, ""), made(t, im, "")
	first := m.Memory()
	if err := first.Store4(0, 0x31323334); err != api.OK {
		t.Errorf("Store4: %d", err)
	}
	steps(t, m, 2)
	e := m.End()
	told := m.Memory()
	steps(t, m, 2)
	if s, _ := told.Bytes(0, 4); s != "abcd" {
		t.Errorf("what was told became %q", s)
	}
	if s, _ := first.Bytes(0, 4); s != "4321" {
		t.Errorf("what was laid into an answer became %q", s)
	}
	if s, _ := m.Memory().Bytes(0, 4); s != "a\x00cd" {
		t.Errorf("the memory is %q", s)
	}
	if e != (api.End{Kind: api.EndFuel, Out: "a"}) || m.End() != (api.End{Kind: api.EndExit, Code: 0x64636261, Out: "a"}) {
		t.Errorf("%+v, %+v", e, m.End())
	}
	expect(t, "another machine of the image", look(t, other), beginning(im))
}

// Ma1: a machine that New did not give.
func TestNotGiven(t *testing.T) {
	refused, _ := New(api.Image{}, "")
	for name, m := range map[string]*Machine{"nil": nil, "zero": {}, "new": new(Machine), "refused": refused} {
		for range 3 {
			if m.Step() || m.Ended() {
				t.Errorf("%s: Step or Ended", name)
			}
			if e := m.End(); e != (api.End{}) {
				t.Errorf("%s: End: %+v", name, e)
			}
			if m.Pc() != 0 || m.Memory() != nil {
				t.Errorf("%s: Pc: %d; Memory: %v", name, m.Pc(), m.Memory())
			}
			for _, r := range []int{math.MinInt, -1, 0, 1, 14, 15, 16, math.MaxInt} {
				if w := m.Reg(r); w != 0 {
					t.Errorf("%s: Reg(%d): %d", name, r, w)
				}
			}
		}
	}
}

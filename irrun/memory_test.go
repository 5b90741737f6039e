package irrun

import (
	"testing"

	"crucible/api"
)

// withData has 16 bytes of globals, 16 of slots.
func withData(code ...api.Instr) api.Program {
	p := straight(code...)
	p.Data = []api.Fill{{At: 1, Bytes: "\x81\x02\x03"}, {At: 4, Bytes: "\xF4"}, {At: 14, Bytes: "yz"}}
	return p
}

func TestLoads(t *testing.T) {
	tests := []struct {
		name string
		from int32
		imm  int32
		wide int
		want int32
	}{
		{"a byte without data", 0, 0, 1, 0},
		{"a byte without sign", 0, 1, 1, 0x81},
		{"the last byte", 16, -1, 1, 'z'},
		{"a word, the lowest byte first", 0, 0, 4, 0x03028100},
		{"one that stands at no multiple of 4", 0, 1, 4, -0xBFCFD7F}, // F4030281
		{"the last word", 12, 0, 4, 0x7A790000},
		{"an offset below 0", 12, -8, 4, 0xF4},
		{"where no data is", 6, 1, 4, 0},
	}
	for _, x := range tests {
		expect(t, x.name, withData(global(1, x.from), load(0, 1, x.imm, x.wide)), exit(x.want))
	}
}

func TestStores(t *testing.T) {
	for _, base := range []api.Instr{global(1, 0), slot(1, 0)} {
		value := constant(2, -0x76543211) // 89ABCDEF
		tests := []struct {
			name string
			code []api.Instr
			want int32
		}{
			{"a word", []api.Instr{store(1, 2, 8, 4), load(0, 1, 8, 4)}, -0x76543211},
			{"its lowest byte", []api.Instr{store(1, 2, 8, 4), load(0, 1, 8, 1)}, 0xEF},
			{"its second", []api.Instr{store(1, 2, 8, 4), load(0, 1, 9, 1)}, 0xCD},
			{"its third", []api.Instr{store(1, 2, 8, 4), load(0, 1, 10, 1)}, 0xAB},
			{"its highest", []api.Instr{store(1, 2, 8, 4), load(0, 1, 11, 1)}, 0x89},
			{"the byte behind", []api.Instr{store(1, 2, 7, 4), load(0, 1, 11, 1)}, 0},
			{"the byte ahead", []api.Instr{store(1, 2, 7, 4), load(0, 1, 6, 1)}, 0},
			{"a byte", []api.Instr{store(1, 2, 9, 1), load(0, 1, 8, 4)}, 0xEF00},
			{"a byte over a word", []api.Instr{constant(3, -1), store(1, 3, 8, 4), store(1, 2, 11, 1), load(0, 1, 8, 4)}, -0x10000001},
			{"the last word", []api.Instr{store(1, 2, 12, 4), load(0, 1, 12, 4)}, -0x76543211},
			{"the first byte", []api.Instr{store(1, 2, 0, 1), load(0, 1, 0, 4)}, 0xEF},
		}
		for _, x := range tests {
			expect(t, x.name, straight(append([]api.Instr{base, value}, x.code...)...), exit(x.want))
		}
	}
}

// usable tells, by the words of the chapter, whether one byte of a straight program may be used.
func usable(address int64) bool {
	return address >= api.GlobalBase && address < api.GlobalBase+16 ||
		address >= api.StackTop-16 && address < api.StackTop
}

func TestWhichAddressesMayBeUsed(t *testing.T) {
	edges := []int64{0, 1 << 31, 1<<32 - 1, api.StackLow, api.StackTop - 16, api.StackTop, api.GlobalBase, api.GlobalBase + 16}
	for _, edge := range edges {
		for near := edge - 6; near <= edge+6; near++ {
			address := near & (1<<32 - 1)
			for _, wide := range []int{1, 4} {
				may := true
				for i := range wide {
					// What lies behind the last address of all is none: no sum of a word's bytes leads to 0 again.
					may = may && usable(address+int64(i))
				}
				want := trapped(api.TrapMemory)
				if may {
					want = exit(0)
				}
				for _, imm := range []int32{0, 5, -5, -1 << 31, 1<<31 - 1} {
					base := constant(1, int32(uint32(address)-uint32(imm)))
					expect(t, "load", straight(base, load(0, 1, imm, wide)), want)
					expect(t, "store", straight(base, store(1, 0, imm, wide)), want)
				}
			}
		}
	}
}

func TestNoGlobalsNoSlots(t *testing.T) {
	for _, base := range []api.Instr{global(0, 0), slot(0, 0)} {
		for imm := int32(-5); imm <= 5; imm++ {
			for _, wide := range []int{1, 4} {
				p := programOf(0, function(0, 1, 0, give(-1, base, load(0, 0, imm, wide))))
				expect(t, "nothing there", p, trapped(api.TrapMemory))
			}
		}
	}
}

func TestAWordThatIsTrappedStoresNothing(t *testing.T) {
	// The globals' last two bytes could be stored, the two behind them not: the trap is all that comes.
	p := straight(global(1, 14), constant(2, -1), store(1, 2, 0, 4))
	expect(t, "over the end", p, trapped(api.TrapMemory))
}

// caller has 8 bytes of slots, in which it lays 41 42 43 44 45 46 47 48, and calls function 1 with their address.
func caller(then ...api.Instr) api.Func {
	code := []api.Instr{slot(1, 0), constant(2, 0x44434241), store(1, 2, 0, 4), constant(2, 0x48474645),
		store(1, 2, 4, 4), called(0, 1, 1)}
	return function(0, 3, 8, give(0, append(code, then...)...))
}

func TestSlotsOfCalls(t *testing.T) {
	tests := []struct {
		name   string
		callee api.Func
		then   []api.Instr
		want   api.End
	}{
		{"they end where the caller's begin", function(1, 3, 12, give(2, slot(1, 12), reckoned(2, api.AluSub, 0, 1))), nil, exit(0)},
		{"they begin so many bytes below", function(1, 3, 12, give(2, slot(1, 0), reckoned(2, api.AluSub, 0, 1))), nil, exit(12)},
		{"the caller's may be loaded", function(1, 2, 12, give(1, load(1, 0, 1, 4))), nil, exit(0x45444342)},
		{"by an address of the callee's", function(1, 2, 12, give(1, slot(1, 12), load(1, 1, 7, 1))), nil, exit(0x48)},
		{"and stored, for the caller", function(1, 2, 12, give(-1, constant(1, 'x'), store(0, 1, 3, 1))),
			[]api.Instr{load(0, 1, 0, 4)}, exit('x'<<24 | 0x434241)},
		{"a word over both", function(1, 2, 12, give(1, load(1, 0, -2, 4))), nil, exit(0x42410000)},
		{"below the last call's", function(1, 2, 12, give(1, load(1, 0, -13, 1))), nil, trapped(api.TrapMemory)},
		{"a word from below them", function(1, 2, 12, give(1, load(1, 0, -13, 4))), nil, trapped(api.TrapMemory)},
		{"their first byte", function(1, 2, 12, give(1, load(1, 0, -12, 1))), nil, exit(0)},
		{"a word behind the first call's", function(1, 2, 12, give(1, load(1, 0, 5, 4))), nil, trapped(api.TrapMemory)},
		{"none: the caller's are the last ones", function(1, 2, 0, give(1, load(1, 0, -1, 1))), nil, trapped(api.TrapMemory)},
		{"those of a call that has ended", function(1, 2, 12, give(-1)), []api.Instr{load(0, 1, -1, 1)}, trapped(api.TrapMemory)},
		{"the caller's behind the call", function(1, 2, 12, give(-1)), []api.Instr{load(0, 1, 4, 4)}, exit(0x48474645)},
	}
	for _, x := range tests {
		expect(t, x.name, programOf(0, caller(x.then...), x.callee), x.want)
	}
}

func TestSlotsAreZeroWhenACallBegins(t *testing.T) {
	leaves := function(0, 2, 8, give(-1, slot(0, 0), constant(1, -1), store(0, 1, 0, 4), store(0, 1, 4, 4)))
	looks := function(0, 2, 8, give(1, slot(0, 0), load(0, 0, 0, 4), slot(1, 0), load(1, 1, 4, 4), reckoned(1, api.AluOr, 0, 1)))
	p := programOf(0, function(0, 1, 4, give(0, called(-1, 1), called(0, 2))), leaves, looks)
	expect(t, "other slots", p, exit(0))
	// A loop's round is no call: what it laid down stays.
	stays := programOf(0, function(0, 4, 4,
		jump(1, slot(0, 0), constant(3, 3)),
		branch(2, 1, 2, load(1, 0, 0, 4), constant(2, 1), reckoned(1, api.AluAdd, 1, 2), store(0, 1, 0, 4),
			reckoned(2, api.AluLt, 1, 3)),
		give(1)))
	expect(t, "the same slots", stays, exit(3))
}

func TestGlobalsStay(t *testing.T) {
	adds := function(0, 3, 0, give(-1, global(0, 0), load(1, 0, 0, 4), constant(2, 5), reckoned(1, api.AluAdd, 1, 2), store(0, 1, 0, 4)))
	p := programOf(4, function(0, 2, 0, give(1, called(-1, 1), called(-1, 1), global(0, 0), load(1, 0, 0, 4))), adds)
	p.Data = []api.Fill{{At: 0, Bytes: "\x01"}}
	for range 2 {
		// Each run begins anew.
		expect(t, "of all calls", p, exit(11))
	}
}

func TestAllOfTheGlobals(t *testing.T) {
	text := make([]byte, api.MaxGlobal)
	text[api.MaxGlobal-1] = 9
	p := programOf(api.MaxGlobal, function(0, 2, 0, give(0, global(1, api.MaxGlobal), load(0, 1, -1, 1))))
	p.Data = []api.Fill{{At: 0, Bytes: string(text)}}
	expect(t, "the last byte", p, exit(9))
	p.Funcs[0].Blocks[0].Code[1].Imm = 0
	expect(t, "behind it", p, trapped(api.TrapMemory))
}

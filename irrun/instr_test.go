package irrun

import (
	"testing"

	"crucible/api"
	"crucible/word"
)

func TestValues(t *testing.T) {
	tests := []struct {
		name string
		code []api.Instr
		want int32
	}{
		{"nothing", nil, 0},
		{"a constant", []api.Instr{constant(0, 7)}, 7},
		{"the least constant", []api.Instr{constant(0, -1<<31)}, -1 << 31},
		{"a constant of another register", []api.Instr{constant(1, 7)}, 0},
		{"the last constant", []api.Instr{constant(0, 7), constant(0, 8)}, 8},
		{"a copy", []api.Instr{constant(3, 9), copied(0, 3)}, 9},
		{"a copy of what has no value", []api.Instr{constant(0, 9), copied(0, 3)}, 0},
		{"a copy of itself", []api.Instr{constant(0, 9), copied(0, 0)}, 9},
		{"a copy stays", []api.Instr{constant(3, 9), copied(0, 3), constant(3, 1)}, 9},
		{"the first less the second", []api.Instr{constant(1, 5), constant(2, 7), reckoned(0, api.AluSub, 1, 2)}, -2},
		{"of one register twice", []api.Instr{constant(0, 5), reckoned(0, api.AluMul, 0, 0)}, 25},
		{"it wraps", []api.Instr{constant(1, 1<<31-1), constant(2, 1), reckoned(0, api.AluAdd, 1, 2)}, -1 << 31},
		{"the globals", []api.Instr{global(0, 0)}, api.GlobalBase},
		{"behind the globals", []api.Instr{global(0, 16)}, api.GlobalBase + 16},
		{"the slots", []api.Instr{slot(0, 0)}, api.StackTop - 16},
		{"behind the slots", []api.Instr{slot(0, 16)}, api.StackTop},
		{"a check of 1", []api.Instr{constant(1, 1), checked(1, api.TrapBounds), constant(0, 2)}, 2},
		{"a check of the highest bit", []api.Instr{constant(1, -1<<31), checked(1, api.TrapDivide), constant(0, 2)}, 2},
		{"no input", []api.Instr{got(0)}, -1},
		{"OpPhis of block 0", []api.Instr{phi(0, nil, nil), phi(1, nil, nil)}, 0},
	}
	for _, x := range tests {
		expectSteps(t, x.name, straight(x.code...), "", 1, len(x.code)+1, exit(x.want))
	}
}

func TestEachAlu(t *testing.T) {
	values := []int32{0, 1, -1, 2, 7, 31, 32, -1 << 31, 1<<31 - 1, 1000}
	for alu := api.AluAdd; alu <= api.AluLeU; alu++ {
		for _, a := range values {
			for _, b := range values {
				value, trap := word.Alu(alu, uint32(a), uint32(b))
				want := exit(int32(value))
				if trap != api.TrapNone {
					want = trapped(api.TrapDivide)
				}
				expect(t, "alu", straight(constant(1, a), constant(2, b), reckoned(0, alu, 1, 2)), want)
			}
		}
	}
}

func TestTraps(t *testing.T) {
	tests := []struct {
		name string
		code []api.Instr // the last one is trapped
		trap int
	}{
		{"divide", []api.Instr{constant(1, 5), reckoned(0, api.AluDiv, 1, 0)}, api.TrapDivide},
		{"divide without sign", []api.Instr{reckoned(0, api.AluDivU, 1, 0)}, api.TrapDivide},
		{"rest", []api.Instr{reckoned(0, api.AluRem, 1, 0)}, api.TrapDivide},
		{"rest without sign", []api.Instr{reckoned(0, api.AluRemU, 1, 0)}, api.TrapDivide},
		{"a check, divide", []api.Instr{constant(0, 3), checked(1, api.TrapDivide)}, api.TrapDivide},
		{"a check, bounds", []api.Instr{constant(0, 3), checked(1, api.TrapBounds)}, api.TrapBounds},
		{"a load", []api.Instr{load(0, 1, 0, 4)}, api.TrapMemory},
		{"a store", []api.Instr{store(1, 0, 0, 1)}, api.TrapMemory},
	}
	for _, x := range tests {
		// What stands behind the trap is not done.
		p := straight(append(append([]api.Instr{}, x.code...), constant(0, 'x'), put(0), got(0))...)
		want := trapped(x.trap)
		if e := Run(p, "abc", plenty, 1); e != want {
			t.Errorf("%s: %+v, not %+v", x.name, e, want)
		}
		expectSteps(t, x.name, p, "abc", 1, len(x.code), want)
	}
}

func TestOutAndInput(t *testing.T) {
	expectOf := func(name string, p api.Program, input string, want api.End) {
		t.Helper()
		if e := Run(p, input, plenty, 1); e != want {
			t.Errorf("%s: %+v, not %+v", name, e, want)
		}
	}
	expectOf("no input", echo(), "", api.End{Kind: api.EndExit, Code: -1})
	every := make([]byte, 256)
	for i := range every {
		every[i] = byte(i)
	}
	expectOf("every byte", echo(), string(every), api.End{Kind: api.EndExit, Code: -1, Out: string(every), Used: 256})
	expectOf("behind the end, again and again", straight(got(0), got(0), got(1), got(0)), "a",
		api.End{Kind: api.EndExit, Code: -1, Used: 1})
	expectOf("a byte without sign", straight(got(0)), "\xFFb", api.End{Kind: api.EndExit, Code: 255, Used: 1})
	expectOf("the lowest byte", straight(constant(0, 0x1234_5641), put(0)), "",
		api.End{Kind: api.EndExit, Code: 0x1234_5641, Out: "A"})
	expectOf("-1", straight(constant(0, -1), put(0)), "", api.End{Kind: api.EndExit, Code: -1, Out: "\xFF"})
	expectOf("ahead of a trap", straight(got(1), put(1), checked(0, api.TrapBounds), put(1)), "qr",
		api.End{Kind: api.EndTrap, Trap: api.TrapBounds, Out: "q", Used: 1})
	if e := Run(echo(), "abc", 7, 1); e != (api.End{Kind: api.EndFuel, Out: "a", Used: 1}) {
		t.Errorf("with fuel up to the second byte: %+v", e)
	}
	if e := Run(echo(), "abc", 8, 1); e != (api.End{Kind: api.EndFuel, Out: "a", Used: 2}) {
		t.Errorf("with fuel for the second byte: %+v", e)
	}
}

func TestExampleOfTheChapter(t *testing.T) {
	p := straight(constant(1, 65), put(1), constant(0, 3))
	expect(t, "the example", p, api.End{Kind: api.EndExit, Code: 3, Out: "A"})
	if e := Run(p, "", 1, 10); e != (api.End{Kind: api.EndFuel}) {
		t.Errorf("with fuel 1: %+v", e)
	}
}

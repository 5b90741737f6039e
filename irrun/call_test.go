package irrun

import (
	"testing"

	"crucible/api"
)

func TestCalls(t *testing.T) {
	three := func(dst int, alu int) api.Func {
		return function(2, 3, 0, give(dst, reckoned(2, alu, 0, 1)))
	}
	sevenFive := []api.Instr{constant(1, 7), constant(2, 5)}
	tests := []struct {
		name   string
		then   []api.Instr
		callee api.Func
		want   int32
	}{
		{"arguments in order", []api.Instr{called(0, 1, 1, 2)}, three(2, api.AluSub), 2},
		{"the other way round", []api.Instr{called(0, 1, 2, 1)}, three(2, api.AluSub), -2},
		{"one twice", []api.Instr{called(0, 1, 2, 2)}, three(2, api.AluMul), 25},
		{"nothing is told", []api.Instr{constant(0, 9), called(0, 1, 1, 2)}, three(-1, api.AluSub), 0},
		{"nobody asks", []api.Instr{constant(0, 9), called(-1, 1, 1, 2)}, three(2, api.AluSub), 9},
		{"a parameter is told", []api.Instr{called(0, 1, 1, 2)}, three(1, api.AluSub), 5},
		{"the caller's registers stay", []api.Instr{called(0, 1, 2, 1), copied(0, 1)}, three(2, api.AluSub), 7},
		{"an argument's register is told to", []api.Instr{called(1, 1, 1, 2), copied(0, 1)}, three(2, api.AluSub), 2},
	}
	for _, x := range tests {
		p := programOf(0, function(0, 3, 0, give(0, append(sevenFive[:2:2], x.then...)...)), x.callee)
		expectSteps(t, x.name, p, "", 2, 2+len(x.then)+2+1, exit(x.want))
	}
}

func TestMostArguments(t *testing.T) {
	main := function(0, 14, 0)
	code := []api.Instr{}
	args := []int{}
	sum := []api.Instr{}
	want := int32(0)
	for i := range api.MaxArgs {
		code = append(code, constant(i, int32(i+2)))
		args = append(args, (i*5)%12)
		sum = append(sum, constant(12, int32(i+1)), reckoned(12, api.AluMul, 12, i), reckoned(13, api.AluAdd, 13, 12))
		want += int32((i+1)*((i*5)%12) + 2*(i+1))
	}
	main.Blocks = []api.Block{give(13, append(code, called(13, 1, args...))...)}
	p := programOf(0, main, function(api.MaxArgs, 14, 0, give(13, sum...)))
	expect(t, "twelve", p, exit(want))
}

func TestRecursion(t *testing.T) {
	for n, want := range []int32{1, 1, 2, 6, 24, 120, 720} {
		if e := Run(factorial(int32(n)), "", plenty, n+2); e != exit(want) {
			t.Errorf("%d!: %+v", n, e)
		}
	}
	// fib(n) calls itself twice: what the first call did to the registers that both share is gone at the second.
	fib := function(1, 4, 0,
		branch(2, 1, 2, constant(1, 2), reckoned(2, api.AluLt, 0, 1)),
		give(0),
		give(3, constant(2, 1), reckoned(2, api.AluSub, 0, 2), called(3, 1, 2), reckoned(2, api.AluSub, 0, 1), called(1, 1, 2),
			reckoned(3, api.AluAdd, 3, 1)))
	p := programOf(0, function(0, 1, 0, give(0, constant(0, 15), called(0, 1, 0))), fib)
	if e := Run(p, "", 1000000, 20); e != exit(610) {
		t.Errorf("fib: %+v", e)
	}
}

func TestACallsRegistersAreZero(t *testing.T) {
	// The callee tells its register 2, and then fills it: in no call it has what another one left, or the caller has.
	looks := function(1, 4, 0,
		branch(0, 1, 2, copied(3, 2), constant(2, 77)),
		give(3, constant(1, 0), called(1, 1, 1), reckoned(3, api.AluAdd, 3, 1)),
		give(3))
	p := programOf(0, function(0, 4, 0, give(3, constant(2, 55), constant(1, 1), called(3, 1, 1), called(0, 1, 1), called(1, 1, 1),
		reckoned(3, api.AluAdd, 3, 0), reckoned(3, api.AluAdd, 3, 1))), looks)
	expect(t, "new registers", p, exit(0))
	// Behind the inner call the outer one's are what they were, also those that it never gave a value.
	inner := function(1, 5, 0,
		branch(0, 1, 2, constant(2, 30)),
		give(2, constant(1, 0), called(-1, 1, 1), reckoned(2, api.AluAdd, 2, 3), reckoned(2, api.AluAdd, 2, 0)),
		give(-1, constant(0, 8), constant(2, 4), constant(3, 5)))
	p = programOf(0, function(0, 1, 0, give(0, constant(0, 100), called(0, 1, 0))), inner)
	expect(t, "old registers", p, exit(130))
}

func TestMainIsCalledAgain(t *testing.T) {
	// Main calls itself, till the input is at its end, and tells how often.
	p := programOf(0,
		function(0, 0, 0, give(-1)),
		function(0, 4, 0,
			branch(2, 2, 1, got(0), constant(1, -1), reckoned(2, api.AluEq, 0, 1)),
			give(3, called(3, 1), constant(1, 1), reckoned(3, api.AluAdd, 3, 1)),
			give(-1)))
	p.Main = 1
	if e := Run(p, "abc", plenty, 4); e != (api.End{Kind: api.EndExit, Code: 3, Used: 3}) {
		t.Errorf("%+v", e)
	}
	if e := Run(p, "abc", plenty, 3); e != (api.End{Kind: api.EndTrap, Trap: api.TrapStack, Used: 3}) {
		t.Errorf("one too deep: %+v", e)
	}
}

func TestDeep(t *testing.T) {
	for _, deep := range []int{0, -1, -1 << 63} {
		for _, fuel := range []int{-1, 0, 1, plenty} {
			// No step is to be done ahead of Main's call: want of fuel is not met.
			if e := Run(counting(), "", fuel, deep); e != trapped(api.TrapStack) {
				t.Errorf("deep %d, fuel %d: %+v", deep, fuel, e)
			}
		}
	}
	p := factorial(5)
	if e := Run(p, "", plenty, 7); e != exit(120) {
		t.Errorf("seven calls: %+v", e)
	}
	for deep := 1; deep <= 6; deep++ {
		expectSteps(t, "too deep", p, "", deep, 2+(deep-1)*4, trapped(api.TrapStack))
	}
	// Calls that have ended are not under way.
	twice := programOf(0, function(0, 1, 0, give(0, called(-1, 1), called(-1, 1), called(0, 1))), function(0, 1, 0, give(0, constant(0, 6))))
	if e := Run(twice, "", plenty, 2); e != exit(6) {
		t.Errorf("one behind the other: %+v", e)
	}
}

// nested has calls without end of functions of so many bytes of slots; each puts a byte.
func nested(main, each int) api.Program {
	return programOf(0,
		function(0, 1, main, give(-1, put(0), called(-1, 1))),
		function(0, 1, each, give(-1, put(0), called(-1, 1))))
}

func TestStackIsFull(t *testing.T) {
	const room = api.StackTop - api.StackLow
	for _, x := range []struct{ main, each, calls int }{
		{api.MaxFrame, api.MaxFrame, 4},
		{0, api.MaxFrame, 5},
		{4, api.MaxFrame, 4},
		{4, 4, room / 4},
		{0, 4, room/4 + 1},
		{8, 12, 1 + (room-8)/12},
		{16, 16, room / 16},
	} {
		e := Run(nested(x.main, x.each), "", 1000000, 1000000)
		if e.Kind != api.EndTrap || e.Trap != api.TrapStack || len(e.Out) != x.calls {
			t.Errorf("slots %d, %d: kind %d, trap %d, %d calls, not %d", x.main, x.each, e.Kind, e.Trap, len(e.Out), x.calls)
		}
	}
}

func TestTheLastBytesOfTheStack(t *testing.T) {
	fills := func(next api.Instr) api.Func {
		return function(0, 2, api.MaxFrame, give(1, slot(0, 0), constant(1, 0x01020304), store(0, 1, 0, 4), next))
	}
	last := fills(load(1, 0, 0, 4))
	p := programOf(0, fills(called(1, 1)), fills(called(1, 2)), fills(called(1, 3)), last,
		function(0, 0, 0, give(-1)), function(0, 0, 4, give(-1)))
	if e := Run(p, "", plenty, 4); e != exit(0x01020304) {
		t.Errorf("all of it: %+v", e)
	}
	p.Funcs[3] = fills(called(1, 4))
	if e := Run(p, "", plenty, 5); e != exit(0) {
		t.Errorf("a call without slots: %+v", e)
	}
	p.Funcs[3] = fills(called(1, 5))
	if e := Run(p, "", plenty, 5); e != trapped(api.TrapStack) {
		t.Errorf("a call with slots: %+v", e)
	}
	p.Funcs[3] = fills(load(1, 0, -1, 1))
	if e := Run(p, "", plenty, 5); e != trapped(api.TrapMemory) {
		t.Errorf("below it: %+v", e)
	}
}

func TestCallsWithoutSlotsAreAsManyAsDeepLets(t *testing.T) {
	const calls = 1000000
	if e := Run(nested(0, 0), "", 3*calls, calls); e.Trap != api.TrapStack || len(e.Out) != calls {
		t.Errorf("kind %d, trap %d, %d calls", e.Kind, e.Trap, len(e.Out))
	}
	if e := Run(nested(0, 0), "", 2*calls, 1<<62); e.Kind != api.EndFuel || len(e.Out) != calls {
		t.Errorf("kind %d, %d calls", e.Kind, len(e.Out))
	}
}

func TestManyRegistersOfManyCalls(t *testing.T) {
	// A million calls under way, each of a function of 65536 registers: what a call keeps is what it gave a value.
	const n = 1000000
	const last = api.MaxRegs - 1
	p := programOf(0,
		function(0, 2, 0, give(1, constant(0, n), called(1, 1, 0))),
		function(1, api.MaxRegs, 0,
			branch(0, 1, 2, constant(1, 1)),
			give(last, reckoned(2, api.AluSub, 0, 1), called(last, 1, 2), reckoned(last, api.AluAdd, last, 1)),
			give(2)))
	if e := Run(p, "", 10*n, n+2); e != exit(n) {
		t.Errorf("%+v", e)
	}
}

package ir

import (
	"math"
	"testing"

	"crucible/api"
)

// Each instruction stands in block 1 of a function of 4 registers and 8 bytes of slots, in a program of 100 bytes of
// globals, whose functions have 0, 1 and 12 Params.
func instrCase(x api.Instr) (api.Program, api.Func) {
	f := api.Func{Name: "f", Params: 1, Regs: 4, Slots: 8, Blocks: []api.Block{jump(1), give(-1, x)}}
	return programOf(f), f
}

// ordinary has of each Op one that may be.
func ordinary() []api.Instr {
	return []api.Instr{
		constant(0, 7), copied(1, 2), reckoned(1, api.AluAdd, 2, 3), global(1, 3), slot(1, 3), load(1, 2, 3, 4),
		store(1, 2, 3, 1), checked(1, api.TrapDivide), call(1, 1, 2), got(1), put(1), phi(1, []int{0}, []int{2}),
	}
}

func expectInstr(t *testing.T, name string, x api.Instr, want api.Errno) {
	t.Helper()
	p, f := instrCase(x)
	if e := CheckFunc(p, f); e != want {
		t.Errorf("%s: %+v: CheckFunc = %d, want %d", name, x, e, want)
	}
	if e := Check(p); e != want {
		t.Errorf("%s: %+v: Check = %d, want %d", name, x, e, want)
	}
}

func TestOrdinaryInstructions(t *testing.T) {
	for i, x := range ordinary() {
		if x.Op != api.OpConst+i {
			t.Fatalf("Op %d stands where %d has to", x.Op, api.OpConst+i)
		}
		expectInstr(t, "as it is", x, api.OK)
	}
}

func TestOpsThatAreNone(t *testing.T) {
	for _, op := range []int{0, -1, api.OpPhi + 1, 100, math.MinInt, math.MaxInt} {
		for _, dst := range []int{-1, 0} {
			expectInstr(t, "no Op", api.Instr{Op: op, Dst: dst}, api.ErrArg)
		}
	}
}

func TestDst(t *testing.T) {
	has := map[int]int{api.OpStore: 0, api.OpCheck: 0, api.OpPut: 0, api.OpCall: 2}
	for _, x := range ordinary() {
		kind, ok := has[x.Op]
		if !ok {
			kind = 1
		}
		register, nothing := api.OK, api.OK
		if kind == 0 {
			register = api.ErrArg
		}
		if kind == 1 {
			nothing = api.ErrArg
		}
		for _, dst := range []int{0, 1, 3} {
			x.Dst = dst
			expectInstr(t, "a register", x, register)
		}
		x.Dst = -1
		expectInstr(t, "none", x, nothing)
		for _, dst := range []int{-2, 4, math.MinInt, math.MaxInt} {
			x.Dst = dst
			expectInstr(t, "no register", x, api.ErrArg)
		}
	}
}

func TestArgs(t *testing.T) {
	for _, x := range ordinary() {
		args := x.Args
		for i := range args {
			for _, c := range []struct {
				register int
				want     api.Errno
			}{
				{0, api.OK}, {3, api.OK}, {-1, api.ErrArg}, {4, api.ErrArg},
				{math.MinInt, api.ErrArg}, {math.MaxInt, api.ErrArg},
			} {
				x.Args = append([]int{}, args...)
				x.Args[i] = c.register
				expectInstr(t, "an Arg", x, c.want)
			}
		}
		x.Args = append(append([]int{}, args...), 0)
		expectInstr(t, "an Arg too many", x, api.ErrArg)
		if len(args) > 0 {
			x.Args = args[:len(args)-1]
			expectInstr(t, "an Arg too few", x, api.ErrArg)
		}
	}
}

func TestImm(t *testing.T) {
	for _, x := range ordinary() {
		low, high := immSpan(x.Op)
		if x.Op == api.OpCall {
			continue // Its Args hang on Imm: TestCalls.
		}
		for _, imm := range []int32{
			math.MinInt32, -70000, -2, -1, 0, 1, 2, 3, 4, 7, 8, 9, 12, 99, 100, 101, 70000, math.MaxInt32,
		} {
			want := api.OK
			if imm < low || imm > high {
				want = api.ErrArg
			}
			x.Imm = imm
			expectInstr(t, "Imm", x, want)
		}
	}
}

func immSpan(op int) (int32, int32) {
	switch op {
	case api.OpConst, api.OpLoad, api.OpStore:
		return math.MinInt32, math.MaxInt32
	case api.OpGlobal:
		return 0, 100
	case api.OpSlot:
		return 0, 8
	case api.OpCheck:
		return 1, 2
	}
	return 0, 0
}

func TestAddressesWithoutRoom(t *testing.T) {
	f := function(1, give(-1, global(0, 0), slot(0, 0)))
	p := api.Program{Funcs: []api.Func{f}}
	if e := Check(p); e != api.OK {
		t.Errorf("no globals, no slots: Check = %d", e)
	}
	for _, x := range []api.Instr{global(0, 1), slot(0, 1), slot(0, 4)} {
		p.Funcs[0].Blocks[0].Code[0] = x
		if e := Check(p); e != api.ErrArg {
			t.Errorf("%+v: Check = %d", x, e)
		}
	}
}

func TestCalls(t *testing.T) {
	twelve := []int{0, 1, 2, 3, 3, 2, 1, 0, 0, 0, 0, 0}
	for _, c := range []struct {
		name string
		x    api.Instr
		want api.Errno
	}{
		{"of no Params", call(0, 0), api.OK},
		{"of none, with one", call(0, 0, 1), api.ErrArg},
		{"of itself", call(0, 1, 2), api.OK},
		{"of itself, with none", call(0, 1), api.ErrArg},
		{"of itself, with two", call(0, 1, 2, 3), api.ErrArg},
		{"of the most Params", call(0, 2, twelve...), api.OK},
		{"with one too few", call(0, 2, twelve[1:]...), api.ErrArg},
		{"with one too many", call(0, 2, append(twelve, 0)...), api.ErrArg},
		{"of a function beyond", call(0, 3), api.ErrArg},
		{"of a function below", call(0, -1), api.ErrArg},
		{"of the greatest", call(0, math.MaxInt32), api.ErrArg},
		{"of the least", call(0, math.MinInt32), api.ErrArg},
	} {
		expectInstr(t, c.name, c.x, c.want)
	}
}

func TestAluAndWide(t *testing.T) {
	for _, x := range ordinary() {
		for _, n := range []int{math.MinInt, -1, 0, 1, 2, 3, 4, 5, 8, 18, 19, 20, 100, math.MaxInt} {
			y := x
			y.Alu = n
			want := api.ErrArg
			if n == 0 && x.Op != api.OpAlu || x.Op == api.OpAlu && n >= 1 && n <= 19 {
				want = api.OK
			}
			expectInstr(t, "Alu", y, want)

			y = x
			y.Wide = n
			want = api.ErrArg
			wide := x.Op == api.OpLoad || x.Op == api.OpStore
			if n == 0 && !wide || wide && (n == 1 || n == 4) {
				want = api.OK
			}
			expectInstr(t, "Wide", y, want)
		}
	}
	for alu := api.AluAdd; alu <= api.AluLeU; alu++ {
		expectInstr(t, "each Alu", reckoned(0, alu, 1, 2), api.OK)
	}
}

func TestPredOfOthers(t *testing.T) {
	for _, x := range ordinary() {
		want := api.ErrArg
		if x.Op == api.OpPhi {
			want = api.OK
		}
		x.Pred = []int{0}
		expectInstr(t, "Pred", x, want)
	}
}

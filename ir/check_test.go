package ir

import (
	"math"
	"testing"

	"crucible/api"
)

func expectFunc(t *testing.T, name string, p api.Program, f api.Func, want api.Errno) {
	t.Helper()
	if e := CheckFunc(p, f); e != want {
		t.Errorf("%s: CheckFunc = %d, want %d", name, e, want)
	}
}

func TestFunctionsThatMayBe(t *testing.T) {
	for name, f := range map[string]api.Func{
		"one that returns -1":      function(0, give(-1)),
		"without a name":           {Blocks: []api.Block{give(-1)}},
		"any name":                 {Name: "\x00 \xff int", Blocks: []api.Block{give(-1)}},
		"everything":               everything(),
		"counting":                 counting(),
		"a phi of none in block 0": function(1, give(0, phi(0, nil, nil))),
		"a phi of empty lists":     function(1, give(0, phi(0, []int{}, []int{}))),
		"a block for itself":       function(1, jump(1), jump(1, phi(0, []int{0, 1}, []int{0, 0}))),
		"one block, both ways":     function(1, branch(0, 1, 1), give(0, phi(0, []int{0}, []int{0}))),
		"not reached, for itself":  function(1, give(0), jump(1, phi(0, []int{1}, []int{0}))),
		"a parameter given anew":   {Params: 1, Regs: 1, Blocks: []api.Block{give(0, constant(0, 1))}},
		"a register without value": function(1, give(0)),
		"empty lists": {Blocks: []api.Block{
			{Code: []api.Instr{}, End: api.EndReturn, Arg: -1, To: []int{}},
		}},
		"instructions' empty lists": function(1, give(0,
			api.Instr{Op: api.OpConst, Args: []int{}, Pred: []int{}},
			api.Instr{Op: api.OpCopy, Args: []int{0}, Pred: []int{}})),
	} {
		expectFunc(t, name, programOf(f), f, api.OK)
		if e := Check(programOf(f)); e != api.OK {
			t.Errorf("%s: Check = %d", name, e)
		}
	}
}

func TestSizesOfFunctions(t *testing.T) {
	for _, c := range []struct {
		name string
		set  func(f *api.Func)
		want api.Errno
	}{
		{"no blocks", func(f *api.Func) { f.Blocks = nil }, api.ErrArg},
		{"as many blocks as may be", func(f *api.Func) { f.Blocks = returns(api.MaxBlocks) }, api.OK},
		{"a block too many", func(f *api.Func) { f.Blocks = returns(api.MaxBlocks + 1) }, api.ErrArg},
		{"as much code as may be", func(f *api.Func) { spread(f, api.MaxCode) }, api.OK},
		{"an instruction too many", func(f *api.Func) { spread(f, api.MaxCode+1) }, api.ErrArg},
		{"no parameters", func(f *api.Func) { f.Params = 0 }, api.OK},
		{"parameters below 0", func(f *api.Func) { f.Params = -1 }, api.ErrArg},
		{"least parameters", func(f *api.Func) { f.Params = math.MinInt }, api.ErrArg},
		{"as many parameters as may be", func(f *api.Func) { f.Params, f.Regs = 12, 12 }, api.OK},
		{"a parameter too many", func(f *api.Func) { f.Params, f.Regs = 13, 13 }, api.ErrArg},
		{"as many registers as parameters", func(f *api.Func) { f.Params, f.Regs = 2, 2 }, api.OK},
		{"fewer registers than parameters", func(f *api.Func) { f.Params, f.Regs = 2, 1 }, api.ErrArg},
		{"registers below 0", func(f *api.Func) { f.Params, f.Regs = 0, -1 }, api.ErrArg},
		{"as many registers as may be", func(f *api.Func) { f.Regs = api.MaxRegs }, api.OK},
		{"a register too many", func(f *api.Func) { f.Regs = api.MaxRegs + 1 }, api.ErrArg},
		{"most registers", func(f *api.Func) { f.Regs = math.MaxInt }, api.ErrArg},
		{"slots of one word", func(f *api.Func) { f.Slots = 4 }, api.OK},
		{"as many slots as may be", func(f *api.Func) { f.Slots = api.MaxFrame }, api.OK},
		{"slots too many", func(f *api.Func) { f.Slots = api.MaxFrame + 4 }, api.ErrArg},
		{"slots below 0", func(f *api.Func) { f.Slots = -4 }, api.ErrArg},
		{"slots of 1", func(f *api.Func) { f.Slots = 1 }, api.ErrArg},
		{"slots of 2", func(f *api.Func) { f.Slots = 2 }, api.ErrArg},
		{"slots of 65535", func(f *api.Func) { f.Slots = 65535 }, api.ErrArg},
	} {
		f := function(1, give(-1))
		c.set(&f)
		expectFunc(t, c.name, programOf(function(0, give(-1))), f, c.want)
		if e := Check(programOf(f)); e != c.want {
			t.Errorf("%s: Check = %d, want %d", c.name, e, c.want)
		}
	}
}

func returns(n int) []api.Block {
	l := make([]api.Block, n)
	for i := range l {
		l[i] = give(-1)
	}
	return l
}

// spread lays n instructions on two blocks: they count together.
func spread(f *api.Func, n int) {
	f.Regs = 1
	f.Blocks = []api.Block{jump(1, constants(n/2)...), give(0, constants(n-n/2)...)}
}

func constants(n int) []api.Instr {
	l := make([]api.Instr, n)
	for i := range l {
		l[i] = constant(0, int32(i))
	}
	return l
}

func TestEnds(t *testing.T) {
	for _, c := range []struct {
		name string
		last api.Block // block 1 of two, in a function of three registers
		want api.Errno
	}{
		{"no End", api.Block{}, api.ErrArg},
		{"an End below", api.Block{End: -1}, api.ErrArg},
		{"an End above", api.Block{End: api.EndReturn + 1, Arg: -1}, api.ErrArg},
		{"a jump", jump(1), api.OK},
		{"a jump that asks", api.Block{End: api.EndJump, Arg: 1, To: []int{1}}, api.ErrArg},
		{"a jump that asks none", api.Block{End: api.EndJump, Arg: -1, To: []int{1}}, api.ErrArg},
		{"a jump to none", api.Block{End: api.EndJump}, api.ErrArg},
		{"a jump to two", api.Block{End: api.EndJump, To: []int{1, 1}}, api.ErrArg},
		{"a jump to block 0", jump(0), api.ErrArg},
		{"a jump beyond", jump(2), api.ErrArg},
		{"a jump below", jump(-1), api.ErrArg},
		{"a jump far beyond", jump(math.MaxInt), api.ErrArg},
		{"a branch", branch(2, 1, 1), api.OK},
		{"a branch on register 0", branch(0, 1, 1), api.OK},
		{"a branch on none", branch(-1, 1, 1), api.ErrArg},
		{"a branch on a register beyond", branch(3, 1, 1), api.ErrArg},
		{"a branch to none", api.Block{End: api.EndBranch}, api.ErrArg},
		{"a branch to one", api.Block{End: api.EndBranch, To: []int{1}}, api.ErrArg},
		{"a branch to three", api.Block{End: api.EndBranch, To: []int{1, 1, 1}}, api.ErrArg},
		{"a branch to block 0", branch(0, 1, 0), api.ErrArg},
		{"a branch to block 0 first", branch(0, 0, 1), api.ErrArg},
		{"a branch beyond", branch(0, 1, 2), api.ErrArg},
		{"a branch below", branch(0, -1, 1), api.ErrArg},
		{"a return", give(0), api.OK},
		{"a return of the last register", give(2), api.OK},
		{"a return of nothing", give(-1), api.OK},
		{"a return of a register beyond", give(3), api.ErrArg},
		{"a return of what is below", give(-2), api.ErrArg},
		{"a return to a block", api.Block{End: api.EndReturn, To: []int{1}}, api.ErrArg},
	} {
		f := function(3, jump(1), c.last)
		expectFunc(t, c.name, programOf(f), f, c.want)
		// It counts of a block that is not reached, too.
		f.Blocks[0] = give(-1)
		expectFunc(t, c.name+", not reached", programOf(f), f, c.want)
	}
}

func TestRegistersWhereThereAreNone(t *testing.T) {
	for name, b := range map[string]api.Block{
		"a branch": branch(0, 1, 1),
		"a return": give(0),
		"a Dst":    give(-1, constant(0, 1)),
		"an Arg":   give(-1, put(0)),
	} {
		f := function(0, b, give(-1))
		expectFunc(t, name, programOf(f), f, api.ErrArg)
	}
}

func TestPhisStandAhead(t *testing.T) {
	one := phi(0, []int{0}, []int{1})
	for _, c := range []struct {
		name string
		code []api.Instr
		want api.Errno
	}{
		{"one", []api.Instr{one}, api.OK},
		{"two", []api.Instr{one, one}, api.OK},
		{"ahead of another", []api.Instr{one, one, got(0)}, api.OK},
		{"behind another", []api.Instr{got(0), one}, api.ErrArg},
		{"around another", []api.Instr{one, got(0), one}, api.ErrArg},
	} {
		f := function(2, jump(1), give(-1, c.code...))
		expectFunc(t, c.name, programOf(f), f, c.want)
	}
}

func TestPhisHaveTheirBlocksPredecessors(t *testing.T) {
	for _, c := range []struct {
		name       string
		pred, args []int
		want       api.Errno
	}{
		{"as they are", []int{0, 2, 3}, []int{0, 1, 1}, api.OK},
		{"falling", []int{3, 2, 0}, []int{0, 1, 1}, api.ErrArg},
		{"not rising", []int{0, 3, 2}, []int{0, 1, 1}, api.ErrArg},
		{"without one that is not reached", []int{0, 2}, []int{0, 1}, api.ErrArg},
		{"with one more", []int{0, 1, 2, 3}, []int{0, 1, 1, 1}, api.ErrArg},
		{"one twice", []int{0, 2, 2, 3}, []int{0, 1, 1, 1}, api.ErrArg},
		{"another one", []int{0, 2, 4}, []int{0, 1, 1}, api.ErrArg},
		{"too few Args", []int{0, 2, 3}, []int{0, 1}, api.ErrArg},
		{"too many Args", []int{0, 2, 3}, []int{0, 1, 1, 1}, api.ErrArg},
		{"no Pred", nil, []int{0, 1, 1}, api.ErrArg},
		{"none of both", nil, nil, api.ErrArg},
		{"an Arg that is none", []int{0, 2, 3}, []int{0, 2, 1}, api.ErrArg},
		{"an Arg below", []int{0, 2, 3}, []int{0, -1, 1}, api.ErrArg},
	} {
		// Block 2 goes to block 1 by both its ways; block 3 is not reached.
		f := function(2, jump(1), branch(0, 2, 4, phi(1, c.pred, c.args)), branch(0, 1, 1), jump(1), give(-1))
		expectFunc(t, c.name, programOf(f), f, c.want)
	}
	f := function(1, jump(1, phi(0, []int{0}, []int{0})), give(-1))
	expectFunc(t, "in block 0, of itself", programOf(f), f, api.ErrArg)
}

func TestFunctionsOfAProgram(t *testing.T) {
	f := function(3, give(-1, global(0, 60), call(0, 1, 0, 1)))
	two := api.Func{Params: 2}
	for _, c := range []struct {
		name string
		p    api.Program
		want api.Errno
	}{
		{"as it has to be", api.Program{Funcs: []api.Func{{}, two}, Global: 60}, api.OK},
		// Of p its Funcs and its Global count, nothing else.
		{"no program", api.Program{Funcs: []api.Func{{}, two}, Global: 60, Main: 7, Data: []api.Fill{{At: -1}}}, api.OK},
		{"more globals", api.Program{Funcs: []api.Func{{}, two}, Global: 1 << 20}, api.OK},
		{"more globals than numbers", api.Program{Funcs: []api.Func{{}, two}, Global: math.MaxInt}, api.OK},
		{"fewer globals", api.Program{Funcs: []api.Func{{}, two}, Global: 59}, api.ErrArg},
		{"globals below 0", api.Program{Funcs: []api.Func{{}, two}, Global: -1}, api.ErrArg},
		{"no functions", api.Program{Global: 60}, api.ErrArg},
		{"too few functions", api.Program{Funcs: []api.Func{two}, Global: 60}, api.ErrArg},
		{"fewer Params", api.Program{Funcs: []api.Func{two, {Params: 1}}, Global: 60}, api.ErrArg},
		{"more Params", api.Program{Funcs: []api.Func{two, {Params: 3}}, Global: 60}, api.ErrArg},
		{"Params below 0", api.Program{Funcs: []api.Func{two, {Params: -2}}, Global: 60}, api.ErrArg},
	} {
		expectFunc(t, c.name, c.p, f, c.want)
	}
}

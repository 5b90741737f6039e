package ssa

import (
	"testing"

	"crucible/api"
)

// Ss1: each of the words' conditions, met and broken.
func TestInForm(t *testing.T) {
	both := []int{1, 2}
	loop := func(at, start, step int) api.Func {
		return function(0, 6, jump(1, constant(0, 1), constant(1, 5)),
			branch(3, 2, 3, phi(2, []int{0, 2}, []int{start, step}), reckoned(3, api.AluLt, 2, 1)),
			jump(1, reckoned(4, api.AluAdd, 2, 0)),
			give(at))
	}
	diamond := func(a, b, told int) api.Func {
		return function(1, 5, branch(0, 1, 2), jump(3, constant(1, 7)), jump(3, constant(2, 8)),
			give(told, phi(3, both, []int{a, b}), copied(4, 3)))
	}
	tests := []struct {
		name string
		f    api.Func
		want bool
	}{
		{"nothing", function(0, 0, give(-1)), true},
		{"a block that is not reached", function(0, 0, give(-1), give(-1)), false},
		{"a row", function(0, 2, jump(1, constant(0, 1)), give(1, copied(1, 0))), true},
		{"given twice in a block", function(0, 1, give(0, constant(0, 1), constant(0, 1))), false},
		{"given twice in two blocks", function(0, 1, jump(1, constant(0, 1)), give(0, constant(0, 1))), false},
		{"given twice by OpPhis", function(0, 1, give(0, phi(0, nil, nil), phi(0, nil, nil))), false},
		{"given twice, used never", function(0, 1, give(-1, constant(0, 1), constant(0, 1))), false},
		{"an OpPhi of block 0", function(0, 2, give(1, phi(0, nil, nil), copied(1, 0))), true},
		{"a parameter is given", function(1, 1, give(0, constant(0, 1))), false},
		{"the last parameter is given", function(12, 13, give(0, copied(11, 0))), false},
		{"what is behind the last parameter is given", function(12, 13, give(12, copied(12, 11))), true},
		{"a parameter is used", function(1, 3, branch(0, 1, 2, copied(1, 0)), give(0), give(2, copied(2, 0))), true},
		{"used and never given", function(0, 1, give(0)), false},
		{"never given, never used", function(0, 9, give(-1)), true},
		{"used ahead in the block", function(0, 2, give(1, copied(1, 0), constant(0, 1))), false},
		{"used by itself", function(0, 1, give(0, copied(0, 0))), false},
		{"the end uses the last", function(0, 1, give(0, constant(0, 1))), true},
		{"a branch uses the last", function(0, 1, branch(0, 1, 1, constant(0, 1)), give(-1)), true},
		{"a branch uses what comes", function(0, 1, branch(0, 1, 1), give(-1, constant(0, 1))), false},
		{"a call tells nobody", function(0, 1, give(-1, called(-1, 0), called(0, 0), called(-1, 0))), true},
		{"of both ways", diamond(1, 2, 4), true},
		{"of the wrong way", diamond(2, 1, 4), false},
		{"of one way alone", diamond(1, 1, 4), false},
		{"of a parameter and a way", diamond(0, 2, 3), true},
		{"of itself, where there is no loop", diamond(1, 3, 3), false},
		{"told of one way alone", diamond(1, 2, 1), false},
		{"a loop", loop(2, 0, 4), true},
		{"a loop, told behind it", loop(3, 1, 3), true},
		{"a loop's step is told", loop(4, 0, 4), false},
		{"a loop of itself", loop(2, 0, 2), true},
		{"a loop begins with its step", loop(2, 4, 4), false},
		{"a loop begins with itself", loop(2, 2, 4), false},
		{"never given in a loop", loop(2, 0, 5), false},
		{"a loop in which the use stands ahead", function(1, 2, jump(1), branch(0, 1, 2, put(1), constant(1, 1)), give(-1)),
			false},
		{"a block around itself", function(1, 3, jump(1),
			branch(0, 1, 2, phi(1, []int{0, 1}, []int{0, 2}), constant(2, 1)), give(2)), true},
		{"OpPhis that change places", function(2, 4, jump(1),
			branch(0, 1, 2, phi(2, []int{0, 1}, []int{0, 3}), phi(3, []int{0, 1}, []int{1, 2})), give(3)), true},
		{"an OpPhi of the one beside it", function(2, 4, jump(1),
			branch(0, 1, 2, phi(2, []int{0, 1}, []int{0, 3}), phi(3, []int{0, 1}, []int{2, 2})), give(3)), false},
		{"in a block of greater number", function(0, 1, jump(2), give(0), jump(1, constant(0, 1))), true},
	}
	for _, x := range tests {
		p := programOf(x.f)
		if got := InForm(p, x.f); got != x.want || modelInForm(p, x.f) != x.want {
			t.Errorf("%s: InForm = %v", x.name, got)
		}
	}
}

// Ss1: what may not be is not in form, whatever else it is.
func TestInFormMayBe(t *testing.T) {
	in := function(0, 2, jump(1, constant(0, 1)), give(1, copied(1, 0)))
	p := programOf(in)
	if !InForm(p, in) {
		t.Fatal("it is in form")
	}
	for name, spoil := range map[string]func(f *api.Func){
		"no blocks":           func(f *api.Func) { f.Blocks = nil },
		"registers":           func(f *api.Func) { f.Regs = 1 },
		"too many registers":  func(f *api.Func) { f.Regs = api.MaxRegs + 1 },
		"slots":               func(f *api.Func) { f.Slots = 2 },
		"too many parameters": func(f *api.Func) { f.Params = 13 },
		"around to block 0":   func(f *api.Func) { f.Blocks[1] = jump(0) },
		"no block":            func(f *api.Func) { f.Blocks[0].To[0] = 2 },
		"no instruction":      func(f *api.Func) { f.Blocks[0].Code[0].Op = 99 },
		"an OpPhi behind":     func(f *api.Func) { f.Blocks[0].Code = append(f.Blocks[0].Code, phi(1, nil, nil)) },
		"a call":              func(f *api.Func) { f.Blocks[0].Code[0] = called(0, 2) },
	} {
		f := function(0, 2, jump(1, constant(0, 1)), give(1, copied(1, 0)))
		spoil(&f)
		if InForm(p, f) {
			t.Errorf("%s: in form", name)
		}
		if made, e := Make(p, f); e != api.ErrArg || len(made.Blocks) > 0 || made.Name != "" || made.Regs != 0 {
			t.Errorf("%s: Make = %+v, error %d", name, made, e)
		}
		if q, e := Whole(programOf(in, f)); e != api.ErrArg || len(q.Funcs) > 0 {
			t.Errorf("%s: Whole = %+v, error %d", name, q, e)
		}
	}
}

// Ss1: a function is one of the program that is handed in with it.
func TestOfAProgram(t *testing.T) {
	f := function(0, 3, give(2, constant(0, 1), constant(1, 2), called(2, 1, 0, 1)))
	p := programOf(f, function(2, 2, give(0)))
	if !InForm(p, f) || InForm(programOf(f), f) || InForm(programOf(f, f), f) {
		t.Error("InForm")
	}
	if made, e := Make(p, f); e != api.OK || !InForm(p, made) {
		t.Errorf("Make: error %d", e)
	}
	for _, other := range []api.Program{{}, programOf(f), programOf(f, f)} {
		if _, e := Make(other, f); e != api.ErrArg {
			t.Errorf("Make of a call that may not be: error %d", e)
		}
	}
	g := function(0, 1, give(0, api.Instr{Op: api.OpGlobal, Dst: 0, Imm: 8}))
	if InForm(api.Program{Global: 7}, g) || !InForm(api.Program{Global: 8}, g) {
		t.Error("InForm of globals")
	}
	if _, e := Make(api.Program{Global: 7}, g); e != api.ErrArg {
		t.Errorf("Make of globals: error %d", e)
	}
}

// Ss1: of a program that may not be there is no form, though all its functions have one.
func TestWholeMayBe(t *testing.T) {
	for name, spoil := range map[string]func(p *api.Program){
		"nothing":                func(p *api.Program) { p.Funcs = nil },
		"globals":                func(p *api.Program) { p.Global = -1 },
		"too many globals":       func(p *api.Program) { p.Global = api.MaxGlobal + 1 },
		"data beyond":            func(p *api.Program) { p.Data[0].At = 7 },
		"empty data":             func(p *api.Program) { p.Data[0].Bytes = "" },
		"no main":                func(p *api.Program) { p.Main = 2 },
		"a main with parameters": func(p *api.Program) { p.Main = 1 },
		"too many functions": func(p *api.Program) {
			for len(p.Funcs) <= api.MaxFuncs {
				p.Funcs = append(p.Funcs, p.Funcs[0])
			}
		},
	} {
		p := programOf(function(0, 1, give(0)), function(1, 1, give(0)))
		p.Global, p.Data = 8, []api.Fill{{At: 6, Bytes: "xy"}}
		wholeOf(t, p)
		spoil(&p)
		if q, e := Whole(p); e != api.ErrArg || len(q.Funcs)+len(q.Data)+q.Global+q.Main != 0 {
			t.Errorf("%s: %+v, error %d", name, q, e)
		}
	}
}

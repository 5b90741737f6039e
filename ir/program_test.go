package ir

import (
	"math"
	"strings"
	"testing"

	"crucible/api"
)

func program() api.Program {
	return api.Program{
		Funcs:  []api.Func{{Name: "one", Params: 1, Regs: 1, Blocks: []api.Block{give(0)}}, counting()},
		Global: 20,
		Data:   []api.Fill{{At: 0, Bytes: "abc"}, {At: 3, Bytes: "d"}, {At: 10, Bytes: "0123456789"}},
		Main:   1,
	}
}

func TestPrograms(t *testing.T) {
	for _, c := range []struct {
		name string
		set  func(p *api.Program)
		want api.Errno
	}{
		{"as it is", func(p *api.Program) {}, api.OK},
		{"no functions", func(p *api.Program) { p.Funcs = nil }, api.ErrArg},
		{"nothing at all", func(p *api.Program) { *p = api.Program{} }, api.ErrArg},
		{"as many functions as may be", func(p *api.Program) { grow(p, api.MaxFuncs) }, api.OK},
		{"a function too many", func(p *api.Program) { grow(p, api.MaxFuncs+1) }, api.ErrArg},
		{"a first function that may not be", func(p *api.Program) { p.Funcs[0].Regs = 0 }, api.ErrArg},
		{"a last function that may not be", func(p *api.Program) { p.Funcs[1].Blocks[1].Arg = 5 }, api.ErrArg},
		{"a function without blocks", func(p *api.Program) { p.Funcs[0].Blocks = nil }, api.ErrArg},
		{"a main of one parameter", func(p *api.Program) { p.Main = 0 }, api.ErrArg},
		{"a main below", func(p *api.Program) { p.Main = -1 }, api.ErrArg},
		{"a main beyond", func(p *api.Program) { p.Main = 2 }, api.ErrArg},
		{"the least main", func(p *api.Program) { p.Main = math.MinInt }, api.ErrArg},
		{"the greatest main", func(p *api.Program) { p.Main = math.MaxInt }, api.ErrArg},
		{"no globals", func(p *api.Program) { p.Global, p.Data = 0, nil }, api.OK},
		{"globals below 0", func(p *api.Program) { p.Global, p.Data = -1, nil }, api.ErrArg},
		{"the least globals", func(p *api.Program) { p.Global = math.MinInt }, api.ErrArg},
		{"as many globals as may be", func(p *api.Program) { p.Global = api.MaxGlobal }, api.OK},
		{"a byte of globals too many", func(p *api.Program) { p.Global = api.MaxGlobal + 1 }, api.ErrArg},
		{"globals of an odd size", func(p *api.Program) { p.Global = 21 }, api.OK},
		{"two functions of one name", func(p *api.Program) { p.Funcs[0].Name = "f" }, api.OK},
	} {
		p := program()
		c.set(&p)
		if e := Check(p); e != c.want {
			t.Errorf("%s: Check = %d, want %d", c.name, e, c.want)
		}
	}
}

func grow(p *api.Program, n int) {
	for len(p.Funcs) < n {
		p.Funcs = append(p.Funcs, p.Funcs[0])
	}
}

func TestData(t *testing.T) {
	whole := strings.Repeat("x", 20)
	for _, c := range []struct {
		name string
		data []api.Fill
		want api.Errno
	}{
		{"none", nil, api.OK},
		{"an empty list", []api.Fill{}, api.OK},
		{"all of the globals", []api.Fill{{At: 0, Bytes: whole}}, api.OK},
		{"more than the globals", []api.Fill{{At: 0, Bytes: whole + "y"}}, api.ErrArg},
		{"over the end", []api.Fill{{At: 1, Bytes: whole}}, api.ErrArg},
		{"the last byte", []api.Fill{{At: 19, Bytes: "x"}}, api.OK},
		{"behind the last byte", []api.Fill{{At: 20, Bytes: "x"}}, api.ErrArg},
		{"below 0", []api.Fill{{At: -1, Bytes: "xy"}}, api.ErrArg},
		{"the least", []api.Fill{{At: math.MinInt, Bytes: "x"}}, api.ErrArg},
		{"the greatest", []api.Fill{{At: math.MaxInt, Bytes: "x"}}, api.ErrArg},
		{"empty", []api.Fill{{At: 3, Bytes: ""}}, api.ErrArg},
		{"empty at the end", []api.Fill{{At: 20, Bytes: ""}}, api.ErrArg},
		{"an empty one behind", []api.Fill{{At: 3, Bytes: "x"}, {At: 4}}, api.ErrArg},
		{"side by side", []api.Fill{{At: 3, Bytes: "xy"}, {At: 5, Bytes: "z"}}, api.OK},
		{"one over another", []api.Fill{{At: 3, Bytes: "xy"}, {At: 4, Bytes: "z"}}, api.ErrArg},
		{"at one place", []api.Fill{{At: 3, Bytes: "x"}, {At: 3, Bytes: "x"}}, api.ErrArg},
		{"falling", []api.Fill{{At: 5, Bytes: "x"}, {At: 3, Bytes: "x"}}, api.ErrArg},
		{"the third over the first", []api.Fill{{At: 3, Bytes: "xyz"}, {At: 8, Bytes: "x"}, {At: 5, Bytes: "z"}}, api.ErrArg},
		{"bytes of 0", []api.Fill{{At: 3, Bytes: "\x00\x00"}}, api.OK},
	} {
		p := program()
		p.Data = c.data
		if e := Check(p); e != c.want {
			t.Errorf("%s: Check = %d, want %d", c.name, e, c.want)
		}
	}
}

// What is wrong is found in each of a program's functions, and main's call of another one counts too.
func TestCallsWithinAProgram(t *testing.T) {
	p := program()
	p.Funcs[1].Blocks[3].Code = []api.Instr{call(0, 0, 1)}
	if e := Check(p); e != api.OK {
		t.Errorf("a call of one: Check = %d", e)
	}
	p.Funcs[0].Params = 0
	if e := Check(p); e != api.ErrArg {
		t.Errorf("a call of one where none is asked: Check = %d", e)
	}
}

// The most that may be is no more than may be reckoned.
func TestGreatFunctions(t *testing.T) {
	f := api.Func{Name: "great", Params: 12, Regs: api.MaxRegs, Slots: api.MaxFrame}
	f.Blocks = make([]api.Block, api.MaxBlocks)
	for i := range f.Blocks {
		f.Blocks[i] = branch(api.MaxRegs-1, api.MaxBlocks-1, min(i+1, api.MaxBlocks-1))
	}
	pred := make([]int, api.MaxBlocks)
	for i := range pred {
		pred[i] = i
	}
	last := &f.Blocks[api.MaxBlocks-1]
	for range 5000 {
		last.Code = append(last.Code, phi(0, pred, make([]int, api.MaxBlocks)))
	}
	expectFunc(t, "great", programOf(f), f, api.OK)
	last.Code[4999].Args[4095] = api.MaxRegs
	expectFunc(t, "great, but for one", programOf(f), f, api.ErrArg)
}

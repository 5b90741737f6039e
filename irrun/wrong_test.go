package irrun

import (
	"reflect"
	"testing"

	"crucible/api"
	"crucible/ir"
)

func TestProgramsThatMayNotBe(t *testing.T) {
	putting := func() api.Program {
		p := straight(got(0), put(0), constant(1, 1), reckoned(0, api.AluAdd, 0, 1))
		p.Funcs = append(p.Funcs, function(1, 1, 0, give(-1)))
		return p
	}
	wrong := map[string]func(p *api.Program){
		"no functions":            func(p *api.Program) { p.Funcs = nil },
		"too many":                func(p *api.Program) { p.Funcs = make([]api.Func, api.MaxFuncs+1) },
		"no main":                 func(p *api.Program) { p.Main = 2 },
		"main below 0":            func(p *api.Program) { p.Main = -1 },
		"main with parameters":    func(p *api.Program) { p.Main = 1 },
		"globals below 0":         func(p *api.Program) { p.Global = -1 },
		"too many globals":        func(p *api.Program) { p.Global = api.MaxGlobal + 1 },
		"data outside":            func(p *api.Program) { p.Data = []api.Fill{{At: 16, Bytes: "x"}} },
		"no blocks":               func(p *api.Program) { p.Funcs[0].Blocks = nil },
		"a fault behind all":      func(p *api.Program) { p.Funcs[0].Blocks[0].Arg = 8 },
		"an odd frame":            func(p *api.Program) { p.Funcs[0].Slots = 15 },
		"a register that is none": func(p *api.Program) { p.Funcs[0].Blocks[0].Code[3].Args[1] = 8 },
		"an Op that is none":      func(p *api.Program) { p.Funcs[0].Blocks[0].Code[3].Op = api.OpPhi + 1 },
		"an Alu that is none":     func(p *api.Program) { p.Funcs[0].Blocks[0].Code[3].Alu = api.AluLeU + 1 },
		"no Wide":                 func(p *api.Program) { p.Funcs[0].Blocks[0].Code[3] = load(0, 0, 0, 2) },
		"a late OpPhi":            func(p *api.Program) { p.Funcs[0].Blocks[0].Code[3] = phi(0, nil, nil) },
		"a loop to block 0":       func(p *api.Program) { p.Funcs[0].Blocks[0] = jump(0) },
		"a fault elsewhere":       func(p *api.Program) { p.Funcs[1].Blocks[0].End = 0 },
		"a function without name and all": func(p *api.Program) {
			p.Funcs = append(p.Funcs, api.Func{})
		},
	}
	if n, e := Count(putting(), "a", plenty, 1, api.AluAdd, []int{0, 1}, 0); n != 1 || e != (api.End{Kind: api.EndExit, Code: 'b', Out: "a", Used: 1}) {
		t.Errorf("as it may be: %d, %+v", n, e)
	}
	for name, spoil := range wrong {
		p := putting()
		spoil(&p)
		for _, fuel := range []int{-1, 0, 1, plenty} {
			for _, deep := range []int{0, 10} {
				if e := Run(p, "a", fuel, deep); e != trapped(api.TrapCode) {
					t.Errorf("%s: Run = %+v", name, e)
				}
				n, e := Count(p, "a", fuel, deep, api.AluAdd, []int{0, 1}, 0)
				if n != 0 || e != trapped(api.TrapCode) {
					t.Errorf("%s: Count = %d, %+v", name, n, e)
				}
			}
		}
	}
	if e := Run(api.Program{}, "", plenty, 1); e != trapped(api.TrapCode) {
		t.Errorf("nothing: %+v", e)
	}
}

func TestWhatIsHandedInStays(t *testing.T) {
	p := factorial(4)
	p.Global, p.Data = 8, []api.Fill{{At: 2, Bytes: "abc"}}
	p.Funcs[0].Blocks[0].Code = append(p.Funcs[0].Blocks[0].Code, global(0, 0), store(0, 1, 0, 4))
	twin := p
	twin.Data = []api.Fill{{At: 2, Bytes: "abc"}}
	twin.Funcs = nil
	for _, f := range p.Funcs {
		twin.Funcs = append(twin.Funcs, ir.Copy(f))
	}
	args := []int{3, 0, 7}
	n, first := Count(p, "", plenty, 10, api.AluMul, args[:2], 1)
	if n != 4 || first != exit(24) {
		t.Errorf("%d, %+v", n, first)
	}
	if again := Run(p, "", plenty, 10); again != first {
		t.Errorf("again: %+v", again)
	}
	if !reflect.DeepEqual(p, twin) || !reflect.DeepEqual(args, []int{3, 0, 7}) {
		t.Errorf("changed: %+v, %v", p, args)
	}
}

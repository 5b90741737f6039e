package live

import (
	"math"
	"math/rand"
	"slices"
	"testing"

	"crucible/api"
	"crucible/ir"
)

func expectRefused(t *testing.T, name string, p api.Program, f api.Func) {
	t.Helper()
	in, out, e := Live(p, f)
	if e != api.ErrArg || in != nil || out != nil {
		t.Errorf("%s: Live: error %d, %v, %v", name, e, in, out)
	}
	l, e := Clash(p, f)
	if e != api.ErrArg || l != nil {
		t.Errorf("%s: Clash: error %d, %v", name, e, l)
	}
}

// Lv1, Lv2: ErrArg of what may not be.
func TestWrong(t *testing.T) {
	code := func(l ...api.Instr) api.Func { return function(1, 3, give(none, l...)) }
	tests := map[string]api.Func{
		"no function":             {},
		"no blocks":               function(0, 1),
		"too many blocks":         function(0, 1, slices.Repeat([]api.Block{give(none)}, api.MaxBlocks+1)...),
		"too many instructions":   function(0, 1, give(none, slices.Repeat([]api.Instr{put(0)}, api.MaxCode+1)...)),
		"parameters below 0":      function(-1, 1, give(none)),
		"too many parameters":     function(api.MaxArgs+1, 20, give(none)),
		"too few registers":       function(2, 1, give(none)),
		"registers below 0":       function(0, -1, give(none)),
		"too many registers":      function(0, api.MaxRegs+1, give(none)),
		"very many registers":     function(0, math.MaxInt, give(none)),
		"slots of 3":              {Slots: 3, Blocks: []api.Block{give(none)}},
		"no end":                  function(0, 1, api.Block{}),
		"a jump to none":          function(0, 1, jump(1)),
		"a jump to the beginning": function(0, 1, jump(0)),
		"a jump of a register":    function(0, 2, api.Block{End: api.EndJump, Arg: 1, To: []int{1}}, give(none)),
		"a branch of one":         function(0, 1, api.Block{End: api.EndBranch, To: []int{1}}, give(none)),
		"a branch that asks none": function(0, 1, branch(none, 1, 1), give(none)),
		"no such register":        function(0, 1, give(1)),
		"a register of -2":        function(0, 1, give(-2)),
		"no such Op":              code(api.Instr{Op: 77}),
		"no such argument":        code(put(3)),
		"an argument below 0":     code(put(-1)),
		"no such Dst":             code(got(3)),
		"no Dst":                  code(got(none)),
		"a Dst of a put":          code(api.Instr{Op: api.OpPut, Dst: 1, Args: []int{1}}),
		"one argument of two":     code(api.Instr{Op: api.OpAlu, Dst: 1, Alu: api.AluAdd, Args: []int{1}}),
		"a call of no function":   code(called(1, 1)),
		"a call of too few":       code(called(1, 0)),
		"an OpPhi of another one": code(phi(1, []int{0}, []int{1})),
		"an OpPhi behind others":  code(put(1), phi(1, nil, nil)),
		"an OpPhi of too few":     function(0, 2, jump(1), give(none, phi(1, nil, nil))),
		"an OpPhi of no argument": function(0, 2, jump(1), give(none, phi(1, []int{0}, nil))),
	}
	for name, f := range tests {
		expectRefused(t, name, programOf(function(1, 1, give(none))), f)
	}
}

// Lv1, Lv2: whether a function may be hangs on p's functions and globals, and on nothing else of p.
func TestOfProgram(t *testing.T) {
	f := function(0, 3, give(1, called(1, 1, 2), api.Instr{Op: api.OpGlobal, Dst: 2, Imm: 8}))
	g := function(1, 1, give(none))
	expectRefused(t, "no such function", api.Program{Funcs: []api.Func{f}, Global: 8}, f)
	expectRefused(t, "too few globals", api.Program{Funcs: []api.Func{f, g}, Global: 7}, f)
	expectRefused(t, "other parameters", api.Program{Funcs: []api.Func{f, f}, Global: 8}, f)
	p := api.Program{Funcs: []api.Func{{}, g}, Global: 8, Main: -5, Data: []api.Fill{{At: -1}}}
	in, _ := liveOf(t, p, f)
	if !sameLists(in, [][]int{{2}}) {
		t.Errorf("%v", in)
	}
}

// R1: functions that are spoilt are refused, or may be, just as layer 14 says; none panics.
func TestSpoilt(t *testing.T) {
	r := rand.New(rand.NewSource(25))
	strange := []int{-2, -1, 0, 1, 2, 3, 7, math.MaxInt, math.MinInt}
	refused := 0
	for range 30000 {
		p := randomProgram(r, small)
		f := p.Funcs[0]
		b := &f.Blocks[r.Intn(len(f.Blocks))]
		n := strange[r.Intn(len(strange))]
		switch what := r.Intn(10); {
		case what == 0:
			f.Regs = n
		case what == 1:
			f.Params = n
		case what == 2:
			b.End = n
		case what == 3:
			b.Arg = n
		case what == 4 && len(b.To) > 0:
			b.To[r.Intn(len(b.To))] = n
		case len(b.Code) > 0:
			x := &b.Code[r.Intn(len(b.Code))]
			switch {
			case what < 6:
				x.Op = n
			case what < 7:
				x.Dst = n
			case what < 8 && len(x.Pred) > 0:
				x.Pred[r.Intn(len(x.Pred))] = n
			case len(x.Args) > 0:
				x.Args[r.Intn(len(x.Args))] = n
			}
		}
		if ir.CheckFunc(p, f) != api.OK {
			expectRefused(t, "spoilt", p, f)
			refused++
		} else {
			expectModel(t, p, f)
		}
	}
	if refused < 5000 || refused > 25000 {
		t.Errorf("%d refused: the test says little", refused)
	}
}

package sccp

import (
	"math"
	"math/rand"
	"reflect"
	"testing"

	"crucible/api"
	. "crucible/brick"
	"crucible/ssa"
)

func expectRefused(t *testing.T, name string, p api.Program, f api.Func) {
	t.Helper()
	known, gone, e := Find(p, f)
	if e != api.ErrArg || known != nil || gone != nil {
		t.Errorf("%s: Find: error %d, %v, %v", name, e, known, gone)
	}
	made, e := Fold(p, f)
	if e != api.ErrArg || !reflect.DeepEqual(made, api.Func{}) {
		t.Errorf("%s: Fold: error %d, %+v", name, e, made)
	}
}

// Sc1, Sc2: ErrArg of what is not in form.
func TestWrong(t *testing.T) {
	tests := map[string]api.Func{
		"no function":                {},
		"no blocks":                  Function(0, 1),
		"it may not be":              Function(0, 1, Give(1)),
		"a block that is not gone":   Function(0, 1, Give(None), Give(None)),
		"given a value twice":        Function(0, 1, Give(0, Constant(0, 1), Constant(0, 1))),
		"a parameter given one":      Function(1, 1, Give(0, Constant(0, 1))),
		"never given one":            Function(0, 1, Give(0)),
		"given one behind its use":   Function(0, 2, Give(1, Copied(1, 0), Constant(0, 1))),
		"given one on one way":       Function(1, 2, Branch(0, 1, 2), Jump(2, Constant(1, 1)), Give(1)),
		"brought by an edge too few": Function(0, 2, Jump(1), Give(1, Phi(1, nil, nil))),
		"brought where it is not": Function(1, 3, Branch(0, 1, 2), Jump(2, Constant(1, 1)),
			Give(2, Phi(2, []int{0, 1}, []int{1, 0}))),
	}
	for name, f := range tests {
		expectRefused(t, name, ProgramOf(Function(1, 1, Give(None))), f)
	}
}

// Sc1, Sc2: whether a function may be hangs on p's functions and globals, and on nothing else of p.
func TestOfProgram(t *testing.T) {
	f := Function(0, 3, Give(1, GlobalAt(2, 8), Called(1, 1, 2)))
	g := Function(1, 1, Give(None))
	expectRefused(t, "no such function", api.Program{Funcs: []api.Func{f}, Global: 8}, f)
	expectRefused(t, "too few globals", api.Program{Funcs: []api.Func{f, g}, Global: 7}, f)
	expectRefused(t, "other parameters", api.Program{Funcs: []api.Func{f, f}, Global: 8}, f)
	p := api.Program{Funcs: []api.Func{{}, g}, Global: 8, Main: -5, Data: []api.Fill{{At: -1}}}
	if known, _ := found(t, p, f); known[1] != many {
		t.Errorf("%v", known)
	}
	foldedOf(t, p, f)
}

// R1: functions that are spoilt are refused, or are in form, just as layer 18 says; none panics.
func TestSpoilt(t *testing.T) {
	r := rand.New(rand.NewSource(34))
	strange := []int{-2, -1, 0, 1, 2, 3, 7, math.MaxInt, math.MinInt}
	refused, let := 0, 0
	for range 20000 {
		p := inForm(t, r, Small)
		f := p.Funcs[0]
		b := &f.Blocks[r.Intn(len(f.Blocks))]
		n := strange[r.Intn(len(strange))]
		switch what := r.Intn(10); {
		case what == 0:
			f.Regs = n
		case what == 1:
			f.Params = n
		case what == 2:
			b.End = n
		case what == 3:
			b.Arg = n
		case what == 4 && len(b.To) > 0:
			b.To[r.Intn(len(b.To))] = n
		case len(b.Code) > 0:
			x := &b.Code[r.Intn(len(b.Code))]
			switch {
			case what < 6:
				x.Op = n
			case what < 7:
				x.Dst = n
			case what < 8 && len(x.Pred) > 0:
				x.Pred[r.Intn(len(x.Pred))] = n
			case len(x.Args) > 0:
				x.Args[r.Intn(len(x.Args))] = n
			}
		}
		if ssa.InForm(p, f) {
			expectModel(t, p, f)
			foldedOf(t, p, f)
			let++
		} else {
			expectRefused(t, "spoilt", p, f)
			refused++
		}
	}
	if refused < 5000 || let < 3000 {
		t.Errorf("%d refused, %d let: the test says little", refused, let)
	}
}

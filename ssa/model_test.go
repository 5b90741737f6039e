package ssa

import (
	"math/rand"
	"slices"
	"testing"

	"crucible/api"
	"crucible/ir"
)

// modelInForm is the chapter's words again, by ways instead of dominators: of each register a walk from the beginning
// on stops at its definition, and must come to no use.
func modelInForm(p api.Program, f api.Func) bool {
	if ir.CheckFunc(p, f) != api.OK || slices.Contains(ir.Reached(f), false) {
		return false
	}
	given := make([]int, f.Regs)
	for _, b := range f.Blocks {
		for _, x := range b.Code {
			if x.Dst >= 0 {
				given[x.Dst]++
			}
		}
	}
	for r := range f.Regs {
		if r < f.Params && given[r] > 0 || given[r] > 1 || r >= f.Params && comesToUse(f, r) {
			return false
		}
	}
	return true
}

func comesToUse(f api.Func, r int) bool {
	seen := make([]bool, len(f.Blocks))
	seen[0] = true
	for waiting := []int{0}; len(waiting) > 0; {
		at := waiting[0]
		waiting = waiting[1:]
		b := f.Blocks[at]
		used, defined := usedWithin(b, r)
		if used {
			return true
		}
		if defined {
			continue
		}
		for _, to := range b.To {
			for _, x := range f.Blocks[to].Code {
				if i := slices.Index(x.Pred, at); i >= 0 && x.Args[i] == r {
					return true
				}
			}
			if !seen[to] {
				seen[to] = true
				waiting = append(waiting, to)
			}
		}
	}
	return false
}

// usedWithin tells whether a block, or its end, uses a register ahead of a definition in it, and whether it has one.
func usedWithin(b api.Block, r int) (used, defined bool) {
	for _, x := range b.Code {
		if x.Op != api.OpPhi && slices.Contains(x.Args, r) {
			return true, false
		}
		if x.Dst == r {
			return false, true
		}
	}
	return b.End != api.EndJump && b.Arg == r, false
}

// spoilt is a function with a thing or two changed.
func spoilt(r *rand.Rand, f api.Func) api.Func {
	f = ir.Copy(f)
	for range 1 + r.Intn(2) {
		b := &f.Blocks[r.Intn(len(f.Blocks))]
		if len(b.Code) == 0 || r.Intn(8) == 0 {
			if b.End != api.EndJump {
				b.Arg = r.Intn(f.Regs + 1)
			} else if r.Intn(4) == 0 {
				b.To[0] = r.Intn(len(f.Blocks))
			}
			continue
		}
		x, y := &b.Code[r.Intn(len(b.Code))], &b.Code[r.Intn(len(b.Code))]
		switch {
		case r.Intn(4) == 0:
			*x, *y = *y, *x
		case r.Intn(2) == 0 && x.Dst >= 0:
			x.Dst = r.Intn(f.Regs)
		case len(x.Args) > 0:
			x.Args[r.Intn(len(x.Args))] = r.Intn(f.Regs)
		}
	}
	return f
}

// Ss1: InForm is what the words say.
func TestInFormAgainstTheModel(t *testing.T) {
	r := rand.New(rand.NewSource(18))
	var answers [2]int
	hold := func(p api.Program, f api.Func) {
		want := modelInForm(p, f)
		if got := InForm(p, f); got != want {
			t.Fatalf("InForm = %v: %+v", got, f)
		}
		if want {
			answers[1]++
		} else {
			answers[0]++
		}
	}
	for i := range 8000 {
		p := randomProgram(r, shape{1 + r.Intn(7), 1 + r.Intn(4), 1 + r.Intn(3), 1 + r.Intn(4)})
		for _, f := range p.Funcs {
			hold(p, f)
			made, e := Make(p, f)
			if e != api.OK {
				t.Fatalf("%d: error %d", i, e)
			}
			hold(p, made)
			for range 12 {
				hold(p, spoilt(r, made))
			}
		}
	}
	if answers[0] < 40000 || answers[1] < 20000 {
		t.Errorf("%v: the test says little", answers)
	}
}

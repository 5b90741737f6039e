package sccp

import (
	"math/rand"
	"testing"

	"crucible/api"
	. "crucible/brick"
	"crucible/ir"
	"crucible/ssa"
)

// found is what Find tells of a function in form.
func found(t *testing.T, p api.Program, f api.Func) ([]api.Known, []bool) {
	t.Helper()
	known, gone, e := Find(p, f)
	if e != api.OK || len(known) != f.Regs || len(gone) != len(f.Blocks) {
		t.Fatalf("Find: error %d, %d registers, %d blocks of %d, %d", e, len(known), len(gone), f.Regs, len(f.Blocks))
	}
	return known, gone
}

// foldedOf is what Fold makes of a function in form, held to what Sc2 says of it, but for what comes of it.
func foldedOf(t *testing.T, p api.Program, f api.Func) api.Func {
	t.Helper()
	made, e := Fold(p, f)
	if e != api.OK {
		t.Fatalf("Fold: error %d, of %+v", e, f)
	}
	if made.Name != f.Name || made.Params != f.Params || made.Slots != f.Slots {
		t.Fatalf("%q, %d, %d of %q, %d, %d", made.Name, made.Params, made.Slots, f.Name, f.Params, f.Slots)
	}
	if !ssa.InForm(p, made) {
		t.Fatalf("%+v is not in form, of %+v", made, f)
	}
	if len(made.Blocks) > len(f.Blocks) || CodeSize(made) > CodeSize(f) {
		t.Fatalf("%+v has more than %+v", made, f)
	}
	expectFolded(t, p, made)
	return made
}

// expectFolded asks that nothing is known of a function that could be folded.
func expectFolded(t *testing.T, p api.Program, f api.Func) {
	t.Helper()
	known, gone := found(t, p, f)
	for i, b := range f.Blocks {
		if !gone[i] {
			t.Fatalf("block %d is not gone: %+v", i, f)
		}
		for _, x := range b.Code {
			if x.Dst != None && x.Op != api.OpConst && known[x.Dst].Kind != api.KnownMany {
				t.Fatalf("%d is %v: %+v", x.Dst, known[x.Dst], f)
			}
		}
		if b.End == api.EndBranch && known[b.Arg].Kind == api.KnownOne {
			t.Fatalf("the end of %d is known: %+v", i, f)
		}
	}
}

// inForm is a random program, all of whose functions are in form.
func inForm(t *testing.T, r *rand.Rand, s Shape) api.Program {
	t.Helper()
	q, e := ssa.Whole(Random(r.Intn, s))
	if e != api.OK {
		t.Fatalf("Whole: error %d", e)
	}
	for i, f := range q.Funcs {
		q.Funcs[i] = varied(r, q, f)
	}
	return q
}

// varied has some other arguments, as far as it is in form still: ssa.Make alone makes no copies and few strange OpPhis.
func varied(r *rand.Rand, p api.Program, f api.Func) api.Func {
	for range r.Intn(8) {
		g := ir.Copy(f)
		b := &g.Blocks[r.Intn(len(g.Blocks))]
		if len(b.Code) == 0 {
			continue
		}
		x := &b.Code[r.Intn(len(b.Code))]
		switch {
		case x.Op == api.OpGet:
			*x = Copied(x.Dst, r.Intn(g.Regs))
		case len(x.Args) > 0:
			x.Args[r.Intn(len(x.Args))] = r.Intn(g.Regs)
		}
		if ssa.InForm(p, g) {
			f = g
		}
	}
	return f
}

// constants is a shape of which much is known.
var constants = Shape{Blocks: 8, Regs: 5, Phis: 3, Code: 6, Constants: 15}

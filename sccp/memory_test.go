package sccp

import (
	"math/rand"
	"reflect"
	"slices"
	"testing"

	"crucible/api"
	. "crucible/brick"
	"crucible/ir"
)

// R3, R4: what is handed in stays, with the room behind it; the same is told again; answers share no memory.
func TestMemory(t *testing.T) {
	r := rand.New(rand.NewSource(33))
	for range 1500 {
		p := Roomy(inForm(t, r, constants))
		f := p.Funcs[r.Intn(len(p.Funcs))]
		was := Whole(p)
		known, gone := found(t, p, f)
		made := foldedOf(t, p, f)
		want := Whole(ProgramOf(made))
		wantKnown, wantGone := slices.Clone(known), slices.Clone(gone)
		known2, gone2 := found(t, p, f)
		made2 := foldedOf(t, p, f)
		if !slices.Equal(known, known2) || !slices.Equal(gone, gone2) || !ir.Same(made, made2) {
			t.Fatalf("another answer the second time, of %+v", f)
		}
		for i := range known2 {
			known2[i].Kind = 9
		}
		for i := range gone2 {
			gone2[i] = !gone2[i]
		}
		if !Spoil(made2) {
			t.Fatalf("two lists of an answer share memory, of %+v", f)
		}
		if !reflect.DeepEqual(Whole(p), was) {
			t.Fatalf("it was changed, or shares memory with an answer: %+v", f)
		}
		if !slices.Equal(known, wantKnown) || !slices.Equal(gone, wantGone) ||
			!reflect.DeepEqual(Whole(ProgramOf(made)), want) {
			t.Fatalf("an answer shares memory with another one, of %+v", f)
		}
	}
}

// R3: nil and the empty list are the same.
func TestEmptyLists(t *testing.T) {
	empty := api.Block{Code: []api.Instr{{Op: api.OpPhi, Args: []int{}, Pred: []int{}}}, End: api.EndReturn, To: []int{}}
	f := Function(0, 1, empty)
	if known, _ := found(t, ProgramOf(f), f); known[0] != one(0) {
		t.Errorf("%v", known)
	}
	if made := foldedOf(t, ProgramOf(f), f); !ir.Same(made, Function(0, 1, Give(0, Constant(0, 0)))) {
		t.Errorf("%+v", made)
	}
}

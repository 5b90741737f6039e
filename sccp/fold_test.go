package sccp

import (
	"slices"
	"testing"

	"crucible/api"
	. "crucible/brick"
	"crucible/ir"
)

// Sc2: what is known stands in the place of what reckons it.
func TestFoldedCode(t *testing.T) {
	tests := []struct {
		name    string
		f, want api.Func
	}{
		{"nothing is known", Function(1, 2, Give(1, Reckoned(1, api.AluAdd, 0, 0))),
			Function(1, 2, Give(1, Reckoned(1, api.AluAdd, 0, 0)))},
		{"a sum", Function(0, 3, Give(2, Constant(0, 5), Copied(1, 0), Reckoned(2, api.AluAdd, 0, 1))),
			Function(0, 3, Give(2, Constant(0, 5), Constant(1, 5), Constant(2, 10)))},
		{"what traps stays", Function(0, 2, Give(1, Constant(0, 0), Reckoned(1, api.AluDiv, 0, 0))),
			Function(0, 2, Give(1, Constant(0, 0), Reckoned(1, api.AluDiv, 0, 0)))},
		{"an OpPhi of none", Function(0, 1, Give(0, Phi(0, nil, nil))), Function(0, 1, Give(0, Constant(0, 0)))},
		{"a branch, and what it does not go to",
			Function(0, 5, Branch(0, 1, 2, Constant(0, 1)), Jump(3, Got(1)), Jump(3, Got(2)),
				Give(4, Phi(3, []int{1, 2}, []int{1, 2}), Phi(4, []int{1, 2}, []int{0, 2}))),
			Function(0, 5, Jump(1, Constant(0, 1)), Jump(2, Got(1)), Give(4, Phi(3, []int{1}, []int{1}), Constant(4, 1)))},
		{"a branch to one alone", Function(0, 1, Branch(0, 1, 1, Constant(0, 1)), Give(0)),
			Function(0, 1, Jump(1, Constant(0, 1)), Give(0))},
		{"OpPhis stay ahead", Function(1, 5, Branch(0, 1, 2, Constant(1, 7)), Jump(2, Got(2)),
			Give(4, Phi(3, []int{0, 1}, []int{1, 1}), Phi(4, []int{0, 1}, []int{0, 2}))),
			Function(1, 5, Branch(0, 1, 2, Constant(1, 7)), Jump(2, Got(2)),
				Give(4, Phi(4, []int{0, 1}, []int{0, 2}), Constant(3, 7)))},
	}
	for _, x := range tests {
		if f := foldedOf(t, ProgramOf(x.f), x.f); !ir.Same(f, x.want) {
			t.Errorf("%s: %+v", x.name, f)
		}
	}
}

// Sc2: of the chapter's example a jump and constants are left.
func TestFoldedExample(t *testing.T) {
	f := Function(0, 4, Branch(0, 1, 2, Constant(0, 1)), Jump(3, Constant(1, 2)), Jump(3, Constant(2, 3)),
		Give(3, Phi(3, []int{1, 2}, []int{1, 2})))
	f.Name, f.Slots = "example", 8
	known, gone := found(t, ProgramOf(f), f)
	if known[3] != one(2) || !slices.Equal(gone, []bool{true, true, false, true}) {
		t.Errorf("%v, %v", known, gone)
	}
	want := Function(0, 4, Jump(1, Constant(0, 1)), Jump(2, Constant(1, 2)), Give(3, Constant(3, 2)))
	want.Name, want.Slots = "example", 8
	if made := foldedOf(t, ProgramOf(f), f); !ir.Same(made, want) {
		t.Errorf("%+v", made)
	}
}

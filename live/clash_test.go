package live

import (
	"testing"

	"crucible/api"
)

// The document's example: a = 1; b = 2; c = a + b; return c.
func TestExample(t *testing.T) {
	f := function(0, 3, give(2, constant(0, 1), constant(1, 2), reckoned(2, api.AluAdd, 0, 1)))
	if l := clashOf(t, programOf(f), f); !sameLists(l, [][]int{{1}, {0}, nil}) {
		t.Errorf("%v", l)
	}
}

type clashTest struct {
	name string
	f    api.Func
	want [][]int
}

func expectClashes(t *testing.T, tests []clashTest) {
	t.Helper()
	for _, x := range tests {
		if l := clashOf(t, programOf(x.f), x.f); !sameLists(l, x.want) {
			t.Errorf("%s: %v", x.name, l)
		}
	}
}

// Lv2: by instructions.
func TestClashOfInstructions(t *testing.T) {
	expectClashes(t, []clashTest{
		{"no registers", function(0, 0, give(none)), nil},
		{"nothing is defined", function(0, 3, give(none, put(0), put(1), put(2))), [][]int{nil, nil, nil}},
		{"needed by nobody, where another one is", function(0, 2, give(0, got(0), got(1))), [][]int{{1}, {0}}},
		{"needed by nobody, where none is", function(0, 2, give(none, got(0), put(0), got(1))), [][]int{nil, nil}},
		{"one behind the other", function(0, 2, give(1, got(0), put(0), got(1))), [][]int{nil, nil}},
		{"in the place of its argument", function(0, 2, give(1, got(0), reckoned(1, api.AluAdd, 0, 0))),
			[][]int{nil, nil}},
		{"its argument is needed still", function(0, 2, give(1, got(0), reckoned(1, api.AluAdd, 0, 0), put(0))),
			[][]int{{1}, {0}}},
		{"a copy of what is needed still", function(0, 2, give(1, got(0), copied(1, 0), put(0))), [][]int{nil, nil}},
		{"a copy, and others", function(0, 3, give(1, got(2), got(0), copied(1, 0), put(0), put(2))),
			[][]int{{2}, {2}, {0, 1}}},
		{"a copy, then defined anew", function(0, 2, give(1, got(0), copied(1, 0), got(0), put(0))),
			[][]int{{1}, {0}}},
		{"a copy, defined anew by the way", function(0, 2, give(1, got(0), copied(1, 0), put(0), got(1), put(0))),
			[][]int{{1}, {0}}},
		{"copied to itself", function(0, 2, give(1, got(0), got(1), copied(1, 1), put(0))), [][]int{{1}, {0}}},
		{"a call of nothing told", function(0, 2, give(1, got(1), called(none, 0))), [][]int{nil, nil}},
		{"what the end needs", function(0, 2, give(0, got(1))), [][]int{{1}, {0}}},
		{"rising, and once", function(0, 4, give(none, got(3), got(0), got(2), got(1), put(3), put(2), put(1), put(0),
			got(3), got(1), put(1), put(3))), [][]int{{1, 2, 3}, {0, 2, 3}, {0, 1, 3}, {0, 1, 2}}},
	})
}

// Lv2: by ways.
func TestClashOfWays(t *testing.T) {
	expectClashes(t, []clashTest{
		{"of two ways", function(0, 3, branch(0, 1, 2, got(0)), give(1, got(1)), give(2, got(2))),
			[][]int{nil, nil, nil}},
		{"needed on another way", function(0, 3, branch(0, 1, 2, got(0), got(1), got(2)), give(1), give(2)),
			[][]int{{1, 2}, {0, 2}, {0, 1}}},
		{"around a loop", function(0, 2, jump(1, got(0)), branch(1, 1, 1, got(1), put(0))), [][]int{{1}, {0}}},
		{"where none is reached", function(0, 2, give(none), give(1, got(0), got(1), put(0))), [][]int{nil, nil}},
		{"live in what is reached, defined in what is not", function(0, 2, jump(2), jump(2, got(0)), give(1, put(0))),
			[][]int{nil, nil}},
	})
}

// Lv2: by parameters, at the beginning.
func TestClashOfParameters(t *testing.T) {
	expectClashes(t, []clashTest{
		{"all are live", function(3, 3, give(2, put(0), put(1))), [][]int{{1, 2}, {0, 2}, {0, 1}}},
		{"one is live", function(3, 3, give(1)), [][]int{{1}, {0, 2}, {1}}},
		{"none is", function(3, 3, give(none)), [][]int{nil, nil, nil}},
		{"with what is 0 there", function(1, 3, give(2, put(0), put(1))), [][]int{{1, 2}, {0}, {0}}},
		{"not live itself", function(1, 3, give(2, put(1))), [][]int{{1, 2}, {0}, {0}}},
		{"defined anew", function(2, 2, give(1, got(0), put(0))), [][]int{{1}, {0}}},
		{"copied", function(1, 2, give(1, copied(1, 0), put(0))), [][]int{nil, nil}},
		{"live in another block", function(2, 3, jump(1), give(0, put(1))), [][]int{{1}, {0}, nil}},
		{"with an OpPhi of none", function(1, 2, give(1, phi(1, nil, nil), put(0))), [][]int{{1}, {0}}},
		{"not live itself, with an OpPhi of none", function(1, 2, give(1, phi(1, nil, nil))), [][]int{{1}, {0}}},
	})
}

// Lv2: by OpPhis, all at once.
func TestClashOfPhis(t *testing.T) {
	from := []int{0}
	expectClashes(t, []clashTest{
		{"both are live", function(0, 4, jump(1), give(2, phi(2, from, []int{0}), phi(3, from, []int{0}), put(3))),
			[][]int{nil, nil, {3}, {2}}},
		{"the first one is", function(0, 4, jump(1), give(2, phi(2, from, []int{0}), phi(3, from, []int{0}))),
			[][]int{nil, nil, {3}, {2}}},
		{"the second one is", function(0, 4, jump(1), give(3, phi(2, from, []int{0}), phi(3, from, []int{0}))),
			[][]int{nil, nil, {3}, {2}}},
		{"none is", function(0, 4, jump(1), give(none, phi(2, from, []int{0}), phi(3, from, []int{0}))),
			[][]int{nil, nil, nil, nil}},
		{"with its argument that is needed still", function(0, 2, jump(1), give(1, phi(1, from, []int{0}), put(0))),
			[][]int{{1}, {0}}},
		{"not with another one's argument", function(0, 4, jump(1),
			give(none, phi(2, from, []int{0}), phi(3, from, []int{1}), put(2), put(3))),
			[][]int{nil, nil, {3}, {2}}},
		{"its arguments, where the latter is defined", function(0, 3, branch(0, 1, 2), jump(3, got(1)), jump(3, got(2)),
			give(0, phi(0, []int{1, 2}, []int{1, 2}))), [][]int{nil, nil, nil}},
		{"used at the end of one that defines", function(0, 3, jump(1, got(0), got(1)), give(2, phi(2, from, []int{0}))),
			[][]int{{1}, {0}, nil}},
	})
}

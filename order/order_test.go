package order

import (
	"slices"
	"testing"

	"crucible/api"
)

type example struct {
	name      string
	to        [][]int
	doms      []int
	frontiers [][]int
	loops     []api.Loop
	post      []int
}

func examples() []example {
	return []example{
		{"one block", [][]int{{}}, []int{-1}, [][]int{{}}, nil, []int{0}},
		{"the document's", [][]int{{1}, {2, 3}, {1}, {}}, []int{-1, 0, 1, 1}, [][]int{{}, {1}, {1}, {}},
			[]api.Loop{{Header: 1, Blocks: []int{1, 2}}}, []int{2, 3, 1, 0}},
		{"a row", [][]int{{1}, {2}, {}}, []int{-1, 0, 1}, [][]int{{}, {}, {}}, nil, []int{2, 1, 0}},
		{"one way or the other", [][]int{{1, 2}, {3}, {3}, {}}, []int{-1, 0, 0, 0}, [][]int{{}, {3}, {3}, {}}, nil,
			[]int{3, 1, 2, 0}},
		{"both To one block", [][]int{{2, 2}, {}, {1, 1}}, []int{-1, 2, 0}, [][]int{{}, {}, {}}, nil, []int{1, 2, 0}},
		{"around itself", [][]int{{1}, {1, 2}, {}}, []int{-1, 0, 1}, [][]int{{}, {1}, {}},
			[]api.Loop{{Header: 1, Blocks: []int{1}}}, []int{2, 1, 0}},
		{"without end", [][]int{{1}, {1}}, []int{-1, 0}, [][]int{{}, {1}}, []api.Loop{{Header: 1, Blocks: []int{1}}},
			[]int{1, 0}},
		{"around itself, twice told", [][]int{{1}, {1, 1}}, []int{-1, 0}, [][]int{{}, {1}},
			[]api.Loop{{Header: 1, Blocks: []int{1}}}, []int{1, 0}},
		{"two begins: no loop", [][]int{{1, 2}, {2}, {1}}, []int{-1, 0, 0}, [][]int{{}, {2}, {1}}, nil, []int{2, 1, 0}},
		{"loops within loops", [][]int{{1}, {2, 5}, {3, 4}, {2}, {1}, {}}, []int{-1, 0, 1, 2, 2, 1},
			[][]int{{}, {1}, {1, 2}, {2}, {1}, {}},
			[]api.Loop{{Header: 1, Blocks: []int{1, 2, 3, 4}}, {Header: 2, Blocks: []int{2, 3}}},
			[]int{3, 4, 2, 5, 1, 0}},
		{"two back edges, one loop", [][]int{{1}, {2, 3}, {1}, {1, 4}, {}}, []int{-1, 0, 1, 1, 3},
			[][]int{{}, {1}, {1}, {1}, {}}, []api.Loop{{Header: 1, Blocks: []int{1, 2, 3}}}, []int{2, 4, 3, 1, 0}},
		{"loops apart, greater numbers first", [][]int{{4}, {2}, {1, 3}, {}, {5}, {4, 1}}, []int{-1, 5, 1, 2, 0, 4},
			[][]int{{}, {1}, {1}, {}, {4}, {4}},
			[]api.Loop{{Header: 1, Blocks: []int{1, 2}}, {Header: 4, Blocks: []int{4, 5}}}, []int{3, 2, 1, 5, 4, 0}},
		{"a loop's blocks have two begins", [][]int{{1}, {2, 3}, {3, 4}, {2, 4}, {1}}, []int{-1, 0, 1, 1, 1},
			[][]int{{}, {1}, {3, 4}, {2, 4}, {1}}, []api.Loop{{Header: 1, Blocks: []int{1, 2, 3, 4}}},
			[]int{4, 3, 2, 1, 0}},
		{"not reached", [][]int{{2}, {2, 3}, {}, {1}}, []int{-1, -1, 0, -1}, [][]int{{}, {}, {}, {}}, nil, []int{2, 0}},
		{"a loop to which one comes from what is not reached", [][]int{{2}, {3}, {3, 4}, {2}, {}},
			[]int{-1, -1, 0, 2, 2}, [][]int{{}, {}, {2}, {2}, {}}, []api.Loop{{Header: 2, Blocks: []int{2, 3}}},
			[]int{3, 4, 2, 0}},
		{"what is ahead of its dominator by number", [][]int{{3}, {}, {1}, {2}}, []int{-1, 2, 3, 0},
			[][]int{{}, {}, {}, {}}, nil, []int{1, 2, 3, 0}},
	}
}

// Or1, Or2.
func TestExamples(t *testing.T) {
	for _, x := range examples() {
		f := graph(x.to...)
		mayBe(t, f)
		if l := Doms(f); !slices.Equal(l, x.doms) {
			t.Errorf("%s: Doms = %v, want %v", x.name, l, x.doms)
		}
		if l := Frontiers(f); !sameLists(l, x.frontiers) {
			t.Errorf("%s: Frontiers = %v, want %v", x.name, l, x.frontiers)
		}
		if l := Loops(f); !sameLoops(l, x.loops) {
			t.Errorf("%s: Loops = %v, want %v", x.name, l, x.loops)
		}
		if l := Postorder(f); !slices.Equal(l, x.post) {
			t.Errorf("%s: Postorder = %v, want %v", x.name, l, x.post)
		}
	}
}

// Or1: Dominates, also of what is not reached.
func TestDominates(t *testing.T) {
	f := graph([]int{1}, []int{2, 3}, []int{1}, nil, []int{3})
	for _, c := range []struct {
		a, b int
		want bool
	}{
		{0, 0, true}, {0, 1, true}, {0, 3, true}, {1, 1, true}, {1, 2, true}, {1, 3, true}, {3, 3, true},
		{1, 0, false}, {2, 1, false}, {2, 3, false}, {3, 2, false},
		{4, 4, false}, {4, 3, false}, {0, 4, false}, {3, 4, false}, {4, 0, false},
	} {
		if got := Dominates(f, c.a, c.b); got != c.want {
			t.Errorf("Dominates of %d and %d = %v", c.a, c.b, got)
		}
	}
}

// Or2: the order of To counts.
func TestPostorderGoesByTo(t *testing.T) {
	for _, c := range []struct {
		first []int
		want  []int
	}{
		{[]int{1, 2}, []int{3, 1, 2, 0}},
		{[]int{2, 1}, []int{3, 2, 1, 0}},
		{[]int{3, 1}, []int{3, 1, 0}},
		{[]int{1, 3}, []int{3, 1, 0}},
		{[]int{2, 2}, []int{3, 2, 0}},
	} {
		if l := Postorder(graph(c.first, []int{3}, []int{3}, nil)); !slices.Equal(l, c.want) {
			t.Errorf("of %v: Postorder = %v, want %v", c.first, l, c.want)
		}
	}
}

package lattice

import (
	"math"
	"slices"
	"testing"

	"crucible/api"
)

// The chapter's example.
func TestExample(t *testing.T) {
	in, out := answer(t, gathering(2, [2]int{0, 1}, [2]int{1, 0}), 2)
	expectSets(t, in, []int{0, 1}, []int{0, 1})
	expectSets(t, out, []int{0, 1}, []int{0, 1})
}

// La1: what comes to nodes in a row, where ways meet, and round a loop.
func TestOrdinary(t *testing.T) {
	in, out := answer(t, gathering(3, [2]int{0, 1}, [2]int{1, 2}), 3)
	expectSets(t, in, nil, []int{0}, []int{0, 1})
	expectSets(t, out, []int{0}, []int{0, 1}, []int{0, 1, 2})

	in, out = answer(t, gathering(4, [2]int{0, 1}, [2]int{0, 2}, [2]int{1, 3}, [2]int{2, 3}), 4)
	expectSets(t, in, nil, []int{0}, []int{0}, []int{0, 1, 2})
	expectSets(t, out, []int{0}, []int{0, 1}, []int{0, 2}, []int{0, 1, 2, 3})

	in, out = answer(t, gathering(4, [2]int{0, 1}, [2]int{1, 2}, [2]int{2, 1}, [2]int{2, 3}), 4)
	expectSets(t, in, nil, []int{0, 1, 2}, []int{0, 1, 2}, []int{0, 1, 2})
	expectSets(t, out, []int{0}, []int{0, 1, 2}, []int{0, 1, 2}, []int{0, 1, 2, 3})
}

// La1: edges that go against the nodes' order, as a question that is asked backwards has them.
func TestBackwards(t *testing.T) {
	in, out := answer(t, gathering(4, [2]int{3, 2}, [2]int{2, 1}, [2]int{1, 2}, [2]int{1, 0}), 4)
	expectSets(t, in, []int{1, 2, 3}, []int{1, 2, 3}, []int{1, 2, 3}, nil)
	expectSets(t, out, []int{0, 1, 2, 3}, []int{1, 2, 3}, []int{1, 2, 3}, []int{3})
}

// La1: nodes without edges, from a node to itself, edges that stand twice, and none at all.
func TestFewEdges(t *testing.T) {
	in, out := answer(t, gathering(3), 1)
	expectSets(t, in, nil, nil, nil)
	expectSets(t, out, []int{0}, []int{1}, []int{2})

	in, out = answer(t, gathering(2, [2]int{1, 1}), 1)
	expectSets(t, in, nil, []int{1})
	expectSets(t, out, []int{0}, []int{1})

	in, out = answer(t, gathering(2, [2]int{1, 0}, [2]int{1, 0}, [2]int{1, 0}), 2)
	expectSets(t, in, []int{1}, nil)
	expectSets(t, out, []int{0, 1}, []int{1})

	in, out = answer(t, gathering(0), 0)
	expectSets(t, in)
	expectSets(t, out)

	in, out = answer(t, gathering(1), 1)
	expectSets(t, in, nil)
	expectSets(t, out, []int{0})
}

// La1: what comes from outside comes to its node, joined with what comes by edges, and goes on from there.
func TestStart(t *testing.T) {
	p := gathering(3, [2]int{0, 1}, [2]int{1, 2})
	p.Start = func(node int) Set { return NewSet(10+node, 20) }
	in, out := answer(t, p, 7)
	expectSets(t, in, []int{10, 20}, []int{0, 10, 11, 20}, []int{0, 1, 10, 11, 12, 20})
	expectSets(t, out, []int{0, 10, 20}, []int{0, 1, 10, 11, 20}, []int{0, 1, 2, 10, 11, 12, 20})

	var asked []int
	p.Start = func(node int) Set {
		asked = append(asked, node)
		return NewSet()
	}
	Solve(p, 100)
	slices.Sort(asked)
	expectValues(t, asked, 0, 1, 2)
}

// La1: what flows through a node can be less than what comes to it, and hangs on which node it is.
func TestFlow(t *testing.T) {
	p := gathering(4, [2]int{0, 1}, [2]int{1, 2}, [2]int{2, 1}, [2]int{2, 3})
	gone := []Set{NewSet(), NewSet(0), NewSet(1, 5), NewSet(2)}
	p.Start = func(node int) Set { return NewSet(node + 4) }
	p.Flow = func(node int, v Set) Set { return v.Minus(gone[node]).With(node) }
	in, out := answer(t, p, 8)
	expectSets(t, in, []int{4}, []int{0, 2, 4, 5, 6}, []int{1, 2, 4, 5, 6}, []int{2, 4, 6, 7})
	expectSets(t, out, []int{0, 4}, []int{1, 2, 4, 5, 6}, []int{2, 4, 6}, []int{3, 4, 6, 7})
}

// La1: a question of what holds on all ways: Join is what is in both, and bottom is all.
func TestAllWays(t *testing.T) {
	all := NewSet(0, 1, 2, 3, 4)
	p := gathering(5, [2]int{0, 1}, [2]int{0, 2}, [2]int{1, 3}, [2]int{2, 3}, [2]int{3, 0}, [2]int{4, 4})
	p.Bottom = all
	p.Start = func(node int) Set {
		if node == 0 {
			return NewSet()
		}
		return all
	}
	p.Join = Set.Meet
	in, out := answer(t, p, 5)
	expectSets(t, in, nil, []int{0}, []int{0}, []int{0}, []int{0, 1, 2, 3, 4})
	expectSets(t, out, []int{0}, []int{0, 1}, []int{0, 2}, []int{0, 3}, []int{0, 1, 2, 3, 4})
}

// La1: values of other types: what is known of a number (none, one, many), as a text; and shares of a product, as lists.
func TestOtherValues(t *testing.T) {
	texts := Problem[string]{
		Nodes: 5,
		Edges: [][2]int{{0, 2}, {1, 2}, {1, 3}, {3, 3}, {0, 4}},
		Start: func(node int) string { return []string{"a", "b", "", "b", ""}[node] },
		Join: func(a, b string) string {
			if a == "" || a == b {
				return b
			}
			if b == "" {
				return a
			}
			return "many"
		},
		Equal: func(a, b string) bool { return a == b },
		Flow: func(node int, v string) string {
			if node == 4 && v != "" {
				return "c"
			}
			return v
		},
	}
	in, out := answer(t, texts, 2)
	expectValues(t, in, "a", "b", "many", "b", "a")
	expectValues(t, out, "a", "b", "many", "b", "c")

	lists := Problem[[]int]{
		Nodes:  2,
		Edges:  [][2]int{{0, 1}, {1, 0}},
		Bottom: []int{0, 0},
		Start:  func(node int) []int { return [][]int{{3, 0}, {1, 2}}[node] },
		Join:   func(a, b []int) []int { return []int{max(a[0], b[0]), max(a[1], b[1])} },
		Equal:  func(a, b []int) bool { return slices.Equal(a, b) },
		Flow:   func(_ int, v []int) []int { return []int{v[1], v[1]} },
	}
	ins, outs := answer(t, lists, 6)
	for i, want := range [][]int{{3, 2}, {2, 2}} {
		if !slices.Equal(ins[i], want) || !slices.Equal(outs[i], []int{2, 2}) {
			t.Errorf("lists at %d: %v, %v", i, ins[i], outs[i])
		}
	}
}

// La1: what may not be asked, whatever else is asked with it.
func TestWrong(t *testing.T) {
	wrong := func(what string, p Problem[Set], most int) {
		t.Helper()
		if in, out, e := Solve(p, most); e != api.ErrArg || in != nil || out != nil {
			t.Errorf("%s: error %d, %v, %v", what, e, in, out)
		}
	}
	for _, nodes := range []int{-1, math.MinInt, api.MaxBlocks + 1, math.MaxInt} {
		wrong("nodes", gathering(nodes), 1)
	}
	for _, edge := range [][2]int{{-1, 0}, {0, -1}, {3, 0}, {0, 3}, {math.MaxInt, math.MaxInt}, {math.MinInt, 1}} {
		wrong("an edge", gathering(3, edge), 100)
		wrong("an edge behind others", gathering(3, [2]int{0, 1}, [2]int{2, 2}, edge), 100)
	}
	wrong("an edge of none", gathering(0, [2]int{0, 0}), 100)
	for _, most := range []int{0, -1, math.MinInt} {
		wrong("most", gathering(3), most)
		wrong("most of none", gathering(0), most)
	}
	for _, nodes := range []int{0, 3} {
		for i := range 4 {
			p := gathering(nodes)
			switch i {
			case 0:
				p.Start = nil
			case 1:
				p.Join = nil
			case 2:
				p.Equal = nil
			case 3:
				p.Flow = nil
			}
			wrong("a function", p, 100)
		}
	}
	wrong("nothing", Problem[Set]{}, 100)
}

// La1: no function is asked of what may not be.
func TestWrongIsNotAsked(t *testing.T) {
	p := gathering(2, [2]int{0, 1}, [2]int{2, 0})
	p.Start = func(int) Set { panic("asked") }
	p.Flow = func(int, Set) Set { panic("asked") }
	if _, _, e := Solve(p, 100); e != api.ErrArg {
		t.Errorf("error %d", e)
	}
}

// La1: with fewer calls than are needed ErrFull is told, with as many the answer.
func TestFull(t *testing.T) {
	p := gathering(3, [2]int{0, 1}, [2]int{1, 2}, [2]int{2, 1})
	for most := 1; most < p.Nodes; most++ {
		if in, out, e := Solve(p, most); e != api.ErrFull || in != nil || out != nil {
			t.Errorf("%d: error %d, %v, %v", most, e, in, out)
		}
	}
	answer(t, p, 3)

	if _, _, e := Solve(gathering(1), 1); e != api.OK {
		t.Errorf("one call of one: error %d", e)
	}
	if _, _, e := Solve(climbing(1000, 1, [2]int{0, 0}), 999); e != api.ErrFull {
		t.Errorf("999 calls of 1000: error %d", e)
	}
}

// La1: where nothing rises each node is asked once; where all rise by one, as often as that needs.
func TestFewCalls(t *testing.T) {
	calls := 0
	p := climbing(0, 5, [2]int{0, 1}, [2]int{1, 0}, [2]int{2, 2}, [2]int{1, 3})
	if _, _, e := Solve(counted(p, &calls), 5); e != api.OK || calls != 5 {
		t.Errorf("error %d, %d calls", e, calls)
	}
	calls = 0
	p = climbing(7, 3, [2]int{0, 1}, [2]int{1, 2}, [2]int{2, 0})
	if _, _, e := Solve(counted(p, &calls), 3*8); e != api.OK || calls > 3*8 {
		t.Errorf("error %d, %d calls", e, calls)
	}
}

// La1: what each of the functions panics with goes on.
func TestPanic(t *testing.T) {
	what := func(p Problem[int]) (came any) {
		defer func() { came = recover() }()
		Solve(p, 100)
		return nil
	}
	for i, name := range []string{"start", "join", "equal", "flow"} {
		p := climbing(3, 2, [2]int{0, 1})
		switch i {
		case 0:
			p.Start = func(int) int { panic(name) }
		case 1:
			p.Join = func(int, int) int { panic(name) }
		case 2:
			p.Equal = func(int, int) bool { panic(name) }
		case 3:
			p.Flow = func(int, int) int { panic(name) }
		}
		if came := what(p); came != name {
			t.Errorf("%v, not %s", came, name)
		}
	}
}

// La1: the functions may ask for answers themselves.
func TestWithin(t *testing.T) {
	p := climbing(5, 2, [2]int{0, 1}, [2]int{1, 0})
	p.Flow = func(_, v int) int {
		_, out, _ := Solve(climbing(5, 1+v, [2]int{0, 0}), 100)
		return out[0]
	}
	in, out := answer(t, p, 5)
	expectValues(t, in, 5, 5)
	expectValues(t, out, 5, 5)
}

// R3: edges are not changed, nor what lies behind their end, and the answer's lists are apart.
func TestMemory(t *testing.T) {
	room := [][2]int{{2, 1}, {0, 1}, {2, 1}, {1, 2}, {9, 9}, {-1, 7}}
	before := slices.Clone(room)
	p := climbing(3, 3, room[:4]...)
	in, out, e := Solve(p, 100)
	if e != api.OK || !slices.Equal(room, before) {
		t.Fatalf("error %d, %v", e, room)
	}
	ins, outs := slices.Clone(in), slices.Clone(out)
	for i := range in[:cap(in)] {
		in[:cap(in)][i] = -1
	}
	if !slices.Equal(out, outs) {
		t.Error("in lies where out does")
	}
	for i := range out[:cap(out)] {
		out[:cap(out)][i] = -2
	}
	for i := range room {
		room[i] = [2]int{0, 0}
	}
	p.Edges = before[:4]
	again, outAgain, _ := Solve(p, 100)
	if !slices.Equal(again, ins) || !slices.Equal(outAgain, outs) {
		t.Error("another answer the second time")
	}
}

// La1: edges that a function changes while it is asked are not looked at any more.
func TestEdgesAreRead(t *testing.T) {
	p := gathering(3, [2]int{0, 1}, [2]int{1, 2})
	p.Start = func(int) Set {
		p.Edges[0], p.Edges[1] = [2]int{-5, 99}, [2]int{2, 0}
		return NewSet()
	}
	_, out, e := Solve(p, 100)
	if e != api.OK {
		t.Fatalf("error %d", e)
	}
	expectSets(t, out, []int{0}, []int{0, 1}, []int{0, 1, 2})
}

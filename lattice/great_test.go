package lattice

import (
	"math"
	"math/rand"
	"slices"
	"testing"

	"crucible/api"
)

// rowOf is edges from each node to the next one.
func rowOf(nodes int) [][2]int {
	var l [][2]int
	for i := range nodes - 1 {
		l = append(l, [2]int{i, i + 1})
	}
	return l
}

// La1: as many nodes as may be, in a row, in a row backwards, and in a ring; in a few rounds.
func TestManyNodes(t *testing.T) {
	const n = api.MaxBlocks
	row := rowOf(n)
	back := slices.Clone(row)
	for i, edge := range back {
		back[i] = [2]int{edge[1], edge[0]}
	}
	ring := append(slices.Clone(row), [2]int{n - 1, 0})
	expectLens(t, gathering(n, row...), func(node int) int { return node + 1 })
	expectLens(t, gathering(n, back...), func(node int) int { return n - node })
	expectLens(t, gathering(n, ring...), func(int) int { return n })
}

// expectLens holds what each node tells to having its number, and to being so many.
func expectLens(t *testing.T, p Problem[Set], want func(node int) int) {
	t.Helper()
	_, out, e := Solve(p, 4*p.Nodes)
	if e != api.OK {
		t.Fatalf("error %d", e)
	}
	for node, s := range out {
		if !s.Has(node) || s.Len() != want(node) {
			t.Fatalf("%d numbers at %d, not %d", s.Len(), node, want(node))
		}
	}
}

// La1: values that rise as high as may be.
func TestHigh(t *testing.T) {
	rings := [][][2]int{{{0, 0}}, {{0, 1}, {1, 0}}, {{0, 1}, {1, 2}, {2, 0}, {1, 1}}}
	for i, ring := range rings {
		in, out := answer(t, climbing(maxHeight, i+1, ring...), maxHeight)
		want := slices.Repeat([]int{maxHeight}, i+1)
		expectValues(t, in, want...)
		expectValues(t, out, want...)
	}
}

// La1: very many edges.
func TestManyEdges(t *testing.T) {
	random := rand.New(rand.NewSource(1))
	const n = api.MaxBlocks
	p := climbing(3, n, randomEdges(random, n, 1<<20)...)
	_, out := answer(t, p, 3)
	for node, v := range out {
		if v != 3 {
			t.Fatalf("%d at %d", v, node)
		}
	}
}

// La1: a high loop amid many nodes, which wait for what it tells in the end.
func TestLoopInRow(t *testing.T) {
	const n, loop, high = 2000, 1000, 20000
	p := climbing(high, n, append(rowOf(n), [2]int{loop, loop})...)
	p.Flow = func(node, v int) int {
		if node == loop {
			return min(v+1, high)
		}
		if node == loop+1 && v < high {
			return 0
		}
		return v
	}
	_, out := answer(t, p, high)
	expectValues(t, out[loop-2:loop+3], 0, 0, high, high, high)
}

// La1: calls end also if nothing is promised of their answers.
func TestNotMonotone(t *testing.T) {
	zero := func(int) int { return 0 }
	never := func(_, _ int) bool { return false }
	same := func(a, b int) bool { return a == b }
	second := func(_, b int) int { return b }
	turn := func(_, v int) int { return 1 - v }
	problems := []Problem[int]{
		climbing(math.MaxInt, 1, [2]int{0, 0}),
		climbing(math.MaxInt, 2, [2]int{0, 1}, [2]int{1, 0}),
		{Nodes: 1, Edges: [][2]int{{0, 0}}, Start: zero, Join: second, Equal: never, Flow: turn},
		{Nodes: 2, Edges: [][2]int{{0, 1}, {1, 0}, {1, 1}}, Start: zero, Join: second, Equal: same, Flow: turn},
	}
	for i, p := range problems {
		for _, most := range []int{1, 1000, math.MaxInt} {
			calls := 0
			in, out, e := Solve(counted(p, &calls), most)
			if calls > most || calls > patience*p.Nodes || e == api.ErrArg {
				t.Errorf("%d: error %d, %d calls of %d", i, e, calls, most)
			}
			if e == api.ErrFull && (calls != most || in != nil || out != nil) {
				t.Errorf("%d: full behind %d calls of %d, %v, %v", i, calls, most, in, out)
			}
		}
	}
}

// La1: what never settles is told to be full, up to as many calls as each node is waited for.
func TestNeverSettles(t *testing.T) {
	p := climbing(math.MaxInt, 1, [2]int{0, 0})
	for _, most := range []int{1, 100, maxHeight + 2, patience} {
		if _, _, e := Solve(p, most); e != api.ErrFull {
			t.Errorf("%d: error %d", most, e)
		}
	}
}

package lattice

import (
	"math"
	"math/rand"
	"slices"
	"testing"

	"crucible/api"
)

func noStart(int) Set { return NewSet() }

// gathering is a problem of sets: what comes to a node goes on with the node's own number.
func gathering(nodes int, edges ...[2]int) Problem[Set] {
	return Problem[Set]{
		Nodes: nodes,
		Edges: edges,
		Start: noStart,
		Join:  Set.Union,
		Equal: Set.Equal,
		Flow:  func(node int, v Set) Set { return v.With(node) },
	}
}

// climbing is a problem of numbers, the greatest of which is high: each node tells one more than what comes to it.
func climbing(high, nodes int, edges ...[2]int) Problem[int] {
	return Problem[int]{
		Nodes: nodes,
		Edges: edges,
		Start: func(int) int { return 0 },
		Join:  func(a, b int) int { return max(a, b) },
		Equal: func(a, b int) bool { return a == b },
		Flow:  func(_, v int) int { return min(v+1, high) },
	}
}

// counted is a problem that counts the calls of Flow.
func counted[V any](p Problem[V], calls *int) Problem[V] {
	flow := p.Flow
	p.Flow = func(node int, v V) V {
		*calls++
		return flow(node, v)
	}
	return p
}

// enough is how many calls of Flow a problem of a height may need, by La1's words.
func enough[V any](p Problem[V], height int) int {
	return p.Nodes*(height+1) + len(p.Edges)*height
}

// answer is a problem's answer, held to what a lattice of that height lets it call: as often with every number let.
func answer[V any](t *testing.T, p Problem[V], height int) (in, out []V) {
	t.Helper()
	calls := 0
	in, out, e := Solve(counted(p, &calls), max(1, enough(p, height)))
	if e != api.OK || len(in) != p.Nodes || len(out) != p.Nodes {
		t.Fatalf("error %d, %d and %d values of %d nodes", e, len(in), len(out), p.Nodes)
	}
	if calls > enough(p, height) || calls > p.Nodes*(height+1) {
		t.Fatalf("%d calls of Flow, %d nodes, %d edges, height %d", calls, p.Nodes, len(p.Edges), height)
	}
	expectFull(t, p, calls)
	return in, out
}

// expectFull holds a problem that needs so many calls to being told ErrFull with fewer, and the answer with as many.
func expectFull[V any](t *testing.T, p Problem[V], calls int) {
	t.Helper()
	for _, most := range []int{1, 2, calls / 2, calls - 1, calls, calls + 1, math.MaxInt} {
		if most < 1 {
			continue
		}
		did := 0
		in, out, e := Solve(counted(p, &did), most)
		if most >= calls && (e != api.OK || did != calls || len(in) != p.Nodes || len(out) != p.Nodes) {
			t.Fatalf("%d calls let of %d: error %d, %d calls", most, calls, e, did)
		}
		if most < calls && (e != api.ErrFull || did != most || in != nil || out != nil) {
			t.Fatalf("%d calls let of %d: error %d, %d calls, %v, %v", most, calls, e, did, in, out)
		}
	}
}

func expectSets(t *testing.T, got []Set, want ...[]int) {
	t.Helper()
	if len(got) != len(want) {
		t.Fatalf("%d sets, not %d", len(got), len(want))
	}
	for i, s := range got {
		if l := slices.Collect(s.All()); !slices.Equal(l, want[i]) || !s.Equal(NewSet(want[i]...)) {
			t.Errorf("at %d: %v, not %v", i, l, want[i])
		}
	}
}

func expectValues[V comparable](t *testing.T, got []V, want ...V) {
	t.Helper()
	if !slices.Equal(got, want) {
		t.Errorf("%v, not %v", got, want)
	}
}

func randomEdges(random *rand.Rand, nodes, count int) [][2]int {
	l := make([][2]int, count)
	for i := range l {
		l[i] = [2]int{random.Intn(nodes), random.Intn(nodes)}
	}
	return l
}

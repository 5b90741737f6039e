package lattice

import (
	"math/rand"
	"slices"
	"testing"

	"crucible/api"
)

// family is a lattice of numbers whose bits are joined by or: any finite one is like one of these.
type family struct {
	values []int // with 0; what two are joined is one of them too
	height int
}

func randomFamily(random *rand.Rand, bits int) family {
	values := []int{0}
	for range random.Intn(5) {
		n := random.Intn(1 << bits)
		for _, v := range slices.Clone(values) {
			if !slices.Contains(values, v|n) {
				values = append(values, v|n)
			}
		}
	}
	slices.Sort(values)
	return family{values, heightOf(values)}
}

func isBelow(a, b int) bool { return a|b == b }

// heightOf is how many others can stand one above the other above 0; the values rise.
func heightOf(values []int) int {
	high := make([]int, len(values))
	for i, v := range values {
		for j, u := range values[:i] {
			if isBelow(u, v) {
				high[i] = max(high[i], high[j]+1)
			}
		}
	}
	return slices.Max(high)
}

func (l family) random(random *rand.Rand) int { return l.values[random.Intn(len(l.values))] }

// rising is a function that keeps the order: of each value what any function tells of those below it, joined.
func (l family) rising(random *rand.Rand) map[int]int {
	given, f := map[int]int{}, map[int]int{}
	for _, v := range l.values {
		if random.Intn(3) == 0 {
			given[v] = l.random(random)
		}
	}
	for _, v := range l.values {
		for _, u := range l.values {
			if isBelow(u, v) {
				f[v] |= given[u]
			}
		}
	}
	return f
}

func (l family) problem(random *rand.Rand, nodes int) Problem[int] {
	flows := make([]map[int]int, nodes)
	starts := make([]int, nodes)
	for i := range flows {
		flows[i] = l.rising(random)
		if random.Intn(2) == 0 {
			starts[i] = l.random(random)
		}
	}
	return Problem[int]{
		Nodes: nodes,
		Edges: randomEdges(random, nodes, random.Intn(2*nodes+1)),
		Start: func(node int) int { return starts[node] },
		Join:  func(a, b int) int { return a | b },
		Equal: func(a, b int) bool { return a == b },
		Flow:  func(node, v int) int { return flows[node][v] },
	}
}

// inOf is what comes to a node, by the chapter's words, when nodes tell what out has.
func inOf(p Problem[int], out []int, node int) int {
	in := p.Start(node)
	for _, edge := range p.Edges {
		if edge[1] == node {
			in = p.Join(in, out[edge[0]])
		}
	}
	return in
}

func isFixed(p Problem[int], out []int) bool {
	for node := range p.Nodes {
		if out[node] != p.Flow(node, inOf(p, out, node)) {
			return false
		}
	}
	return true
}

// least is what nodes tell in the end, all asked again and again from bottom on.
func least(p Problem[int]) []int {
	out := make([]int, p.Nodes)
	for !isFixed(p, out) {
		next := make([]int, p.Nodes)
		for node := range next {
			next[node] = p.Flow(node, inOf(p, out, node))
		}
		out = next
	}
	return out
}

func expectLeast(t *testing.T, p Problem[int], height int) []int {
	t.Helper()
	in, out := answer(t, p, height)
	if !isFixed(p, out) || !slices.Equal(out, least(p)) {
		t.Fatalf("out %v, not %v, of %v", out, least(p), p.Edges)
	}
	for node := range p.Nodes {
		if in[node] != inOf(p, out, node) {
			t.Fatalf("in %v, out %v, of %v", in, out, p.Edges)
		}
	}
	return out
}

// La1, La3: the answer of random problems is the model's.
func TestRandom(t *testing.T) {
	for seed := range 3000 {
		random := rand.New(rand.NewSource(int64(seed)))
		l := randomFamily(random, 1+random.Intn(6))
		expectLeast(t, l.problem(random, 1+random.Intn(12)), l.height)
	}
}

// La3: the answer is at most each fixed point that there is.
func TestAllFixedPoints(t *testing.T) {
	others := 0
	for seed := range 4000 {
		random := rand.New(rand.NewSource(int64(seed)))
		l := randomFamily(random, 3)
		p := l.problem(random, 1+random.Intn(3))
		out := expectLeast(t, p, l.height)
		for _, point := range l.points(p.Nodes) {
			if !isFixed(p, point) {
				continue
			}
			if !slices.Equal(out, point) {
				others++
			}
			for i := range point {
				if !isBelow(out[i], point[i]) {
					t.Fatalf("seed %d: %v is not below %v", seed, out, point)
				}
			}
		}
	}
	if others < 300 {
		t.Errorf("%d other fixed points alone", others)
	}
}

// points is all rows of so many values.
func (l family) points(size int) [][]int {
	points := [][]int{nil}
	for range size {
		var longer [][]int
		for _, point := range points {
			for _, v := range l.values {
				longer = append(longer, append(slices.Clone(point), v))
			}
		}
		points = longer
	}
	return points
}

// La3, R4: neither the answer nor how many calls it needs hangs on the order of edges, nor on how often one stands.
func TestOrderOfEdges(t *testing.T) {
	for seed := range 300 {
		random := rand.New(rand.NewSource(int64(seed)))
		l := randomFamily(random, 6)
		p := l.problem(random, 1+random.Intn(10))
		calls := 0
		in, out, _ := Solve(counted(p, &calls), 100000)
		for range 5 {
			q := p
			q.Edges = slices.Clone(p.Edges)
			if len(q.Edges) > 0 {
				q.Edges = append(q.Edges, q.Edges[random.Intn(len(q.Edges))])
			}
			random.Shuffle(len(q.Edges), func(i, j int) { q.Edges[i], q.Edges[j] = q.Edges[j], q.Edges[i] })
			expectFull(t, q, calls)
			if again, outAgain, e := Solve(q, calls); e != api.OK || !slices.Equal(again, in) || !slices.Equal(outAgain, out) {
				t.Fatalf("seed %d: error %d, %v, %v, not %v, %v", seed, e, again, outAgain, in, out)
			}
		}
	}
}

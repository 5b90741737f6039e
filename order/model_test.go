package order

import (
	"math/rand"
	"slices"
	"testing"

	"crucible/api"
	"crucible/check"
	"crucible/lower"
	"crucible/sample"
)

// model answers by the document's words, each word one function.
type model struct {
	to      [][]int
	reached []bool
	without [][]bool // of each block, which ones are reached by ways that don't go through it
}

func modelOf(f api.Func) *model {
	m := &model{}
	for _, b := range f.Blocks {
		m.to = append(m.to, b.To)
	}
	m.reached = m.ways(0, -1)
	for i := range m.to {
		m.without = append(m.without, m.ways(0, i))
	}
	return m
}

// ways tells which blocks one comes to from a block by ways that don't go through another one.
func (m *model) ways(from, without int) []bool {
	seen := make([]bool, len(m.to))
	var visit func(i int)
	visit = func(i int) {
		if i == without || seen[i] {
			return
		}
		seen[i] = true
		for _, to := range m.to[i] {
			visit(to)
		}
	}
	visit(from)
	return seen
}

func (m *model) dominates(a, b int) bool { return m.reached[b] && (a == b || !m.without[a][b]) }

func (m *model) others(b int) []int {
	var l []int
	for a := range m.to {
		if a != b && m.dominates(a, b) {
			l = append(l, a)
		}
	}
	return l
}

func (m *model) doms() []int {
	l := make([]int, len(m.to))
	for b := range m.to {
		l[b] = -1
		others := m.others(b)
		for _, x := range others {
			if !slices.ContainsFunc(others, func(a int) bool { return !m.dominates(a, x) }) {
				l[b] = x
			}
		}
	}
	return l
}

func (m *model) preds(b int) []int {
	var l []int
	for a := range m.to {
		if m.reached[a] && slices.Contains(m.to[a], b) {
			l = append(l, a)
		}
	}
	return l
}

func (m *model) frontiers() [][]int {
	l := make([][]int, len(m.to))
	for a := range m.to {
		for b := range m.to {
			over := slices.ContainsFunc(m.preds(b), func(p int) bool { return m.dominates(a, p) })
			if over && (a == b || !m.dominates(a, b)) {
				l[a] = append(l[a], b)
			}
		}
	}
	return l
}

func (m *model) loops() []api.Loop {
	var l []api.Loop
	for h := range m.to {
		var back []int
		for _, p := range m.preds(h) {
			if m.dominates(h, p) {
				back = append(back, p)
			}
		}
		if len(back) == 0 {
			continue
		}
		x := api.Loop{Header: h}
		for b := range m.to {
			ways := m.ways(b, h)
			if b == h || m.reached[b] && slices.ContainsFunc(back, func(p int) bool { return ways[p] }) {
				x.Blocks = append(x.Blocks, b)
			}
		}
		l = append(l, x)
	}
	return l
}

func (m *model) postorder() []int {
	var l []int
	seen := make([]bool, len(m.to))
	var visit func(i int)
	visit = func(i int) {
		seen[i] = true
		for _, to := range m.to[i] {
			if !seen[to] {
				visit(to)
			}
		}
		l = append(l, i)
	}
	visit(0)
	return l
}

// expectAsModel holds all answers of a function against the words'.
func expectAsModel(t *testing.T, f api.Func) {
	t.Helper()
	m := modelOf(f)
	if l, want := Doms(f), m.doms(); !slices.Equal(l, want) {
		t.Fatalf("%v: Doms = %v, want %v", edges(f), l, want)
	}
	if l, want := Frontiers(f), m.frontiers(); !sameLists(l, want) {
		t.Fatalf("%v: Frontiers = %v, want %v", edges(f), l, want)
	}
	if l, want := Loops(f), m.loops(); !sameLoops(l, want) {
		t.Fatalf("%v: Loops = %v, want %v", edges(f), l, want)
	}
	if l, want := Postorder(f), m.postorder(); !slices.Equal(l, want) {
		t.Fatalf("%v: Postorder = %v, want %v", edges(f), l, want)
	}
}

// expectDominates holds Dominates of all pairs against the words.
func expectDominates(t *testing.T, f api.Func) {
	t.Helper()
	m := modelOf(f)
	for a := range f.Blocks {
		for b := range f.Blocks {
			if got := Dominates(f, a, b); got != m.dominates(a, b) {
				t.Fatalf("%v: Dominates of %d and %d = %v", edges(f), a, b, got)
			}
		}
	}
}

// allFuncs tells each function of n blocks that may be, as far as edges go.
func allFuncs(n int, each func(f api.Func)) {
	ends := [][]int{nil}
	for i := 1; i < n; i++ {
		ends = append(ends, []int{i})
		for j := 1; j < n; j++ {
			ends = append(ends, []int{i, j})
		}
	}
	to := make([][]int, n)
	var fill func(i int)
	fill = func(i int) {
		if i == n {
			each(graph(to...))
			return
		}
		for _, l := range ends {
			to[i] = l
			fill(i + 1)
		}
	}
	fill(0)
}

func TestAllSmallFunctions(t *testing.T) {
	count := 0
	for n := 1; n <= 4; n++ {
		allFuncs(n, func(f api.Func) {
			expectAsModel(t, f)
			expectDominates(t, f)
			count++
		})
	}
	if count != 1+9+343+28561 {
		t.Errorf("%d functions", count)
	}
}

func TestRandomFunctions(t *testing.T) {
	r := rand.New(rand.NewSource(17))
	for i := range 12000 {
		n := 5 + r.Intn(8)
		f := randomGraph(r, n, 1+r.Intn(n))
		mayBe(t, f)
		expectAsModel(t, f)
		if i%8 == 0 {
			expectDominates(t, f)
		}
	}
	for range 150 {
		n := 30 + r.Intn(60)
		expectAsModel(t, randomGraph(r, n, 2+r.Intn(n/4)))
		expectAsModel(t, loopedGraph(r, n))
	}
}

// What sources are lowered to has instructions, and loops within loops.
func TestLoweredFunctions(t *testing.T) {
	tried, loops := 0, 0
	for seed := range int64(300) {
		c, _, ok := check.Source(sample.Source(rand.New(rand.NewSource(seed)).Intn))
		if !ok {
			continue
		}
		p, e := lower.Lower(c)
		if e != api.OK {
			t.Fatalf("seed %d: error %d", seed, e)
		}
		for _, f := range p.Funcs {
			if len(f.Blocks) <= 150 {
				expectAsModel(t, f)
				loops += len(Loops(f))
				tried++
			}
		}
	}
	if tried < 300 || loops < 300 {
		t.Errorf("%d functions with %d loops: the test says little", tried, loops)
	}
}

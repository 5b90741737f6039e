package order

import (
	"math/rand"
	"slices"
	"testing"

	"crucible/api"
	"crucible/ir"
)

// graph is a function of blocks with these To.
func graph(to ...[]int) api.Func {
	f := api.Func{Name: "graph", Regs: 1}
	for _, l := range to {
		b := api.Block{To: l}
		switch len(l) {
		case 0:
			b.End, b.Arg = api.EndReturn, -1
		case 1:
			b.End = api.EndJump
		default:
			b.End = api.EndBranch
		}
		f.Blocks = append(f.Blocks, b)
	}
	return f
}

// mayBe asks that a function may be.
func mayBe(t *testing.T, f api.Func) {
	t.Helper()
	if ir.CheckFunc(api.Program{Funcs: []api.Func{f}}, f) != api.OK {
		t.Fatalf("it may not be: %v", edges(f))
	}
}

// edges is a function's To, short enough to be told.
func edges(f api.Func) [][]int {
	var l [][]int
	for _, b := range f.Blocks[:min(len(f.Blocks), 100)] {
		l = append(l, b.To)
	}
	return l
}

// randomGraph is a function of n blocks that may be: the greater the reach, the farther its edges go.
func randomGraph(r *rand.Rand, n, reach int) api.Func {
	to := make([][]int, n)
	for i := range to {
		if n == 1 || r.Intn(12) == 0 {
			continue
		}
		for range 1 + r.Intn(2) {
			low, high := max(1, i-reach), min(n-1, i+reach)
			to[i] = append(to[i], low+r.Intn(high-low+1))
		}
	}
	return graph(to...)
}

// loopedGraph is a function of n blocks in a row that may be, with loops within loops: a block that is in some may go
// to a header of one, or skip the block behind it.
func loopedGraph(r *rand.Rand, n int) api.Func {
	var headers []int
	to := make([][]int, n)
	for i := 0; i < n-1; i++ {
		to[i] = []int{i + 1}
		switch {
		case i > 0 && r.Intn(3) == 0:
			headers = append(headers, i)
		case len(headers) > 0 && r.Intn(2) == 0:
			at := r.Intn(len(headers))
			to[i] = append(to[i], headers[at])
			headers = headers[:at+1]
		case i < n-2 && r.Intn(3) == 0:
			to[i] = append(to[i], i+2)
			to[i+1] = []int{i + 2}
			i++
		}
	}
	return graph(to...)
}

func sameLists(a, b [][]int) bool { return slices.EqualFunc(a, b, slices.Equal) }

func sameLoops(a, b []api.Loop) bool {
	return slices.EqualFunc(a, b, func(x, y api.Loop) bool {
		return x.Header == y.Header && slices.Equal(x.Blocks, y.Blocks)
	})
}

// isLoop tells whether a list of loops has just those blocks of a header.
func isLoop(l []api.Loop, header int, blocks []int) bool {
	for _, x := range l {
		if x.Header == header {
			return slices.Equal(x.Blocks, blocks)
		}
	}
	return len(blocks) == 0
}

// upTo is low to high.
func upTo(low, high int) []int {
	var l []int
	for i := low; i <= high; i++ {
		l = append(l, i)
	}
	return l
}

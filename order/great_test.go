package order

import (
	"math/rand"
	"slices"
	"testing"
	"time"

	"crucible/api"
)

// A row of as many blocks as may be.
func TestLongestRow(t *testing.T) {
	const n = api.MaxBlocks
	to := make([][]int, n)
	for i := range n - 1 {
		to[i] = []int{i + 1}
	}
	f := graph(to...)
	mayBe(t, f)
	doms, post := Doms(f), Postorder(f)
	for i := range n {
		if doms[i] != i-1 || post[i] != n-1-i {
			t.Fatalf("block %d: Doms %d, Postorder %d", i, doms[i], post[i])
		}
	}
	if !Dominates(f, 0, n-1) || Dominates(f, n-1, 0) {
		t.Error("Dominates of the first and the last")
	}
	if len(Loops(f)) != 0 || slices.ContainsFunc(Frontiers(f), func(l []int) bool { return len(l) > 0 }) {
		t.Error("it has loops or frontiers")
	}
}

// nested is n loops, each within the one ahead: 0, then the headers 1 to n, then the ends of the loops, innermost first.
func nested(n int) api.Func {
	to := make([][]int, 2*n+2)
	for i := range n + 1 {
		to[i] = []int{i + 1}
	}
	for i := range n {
		to[n+1+i] = []int{n - i, n + 2 + i}
	}
	return graph(to...)
}

// The answers are as great as they can be.
func TestManyLoopsWithinOneAnother(t *testing.T) {
	const n = (api.MaxBlocks - 2) / 2
	f := nested(n)
	mayBe(t, f)
	frontiers, loops := Frontiers(f), Loops(f)
	if len(loops) != n {
		t.Fatalf("%d loops", len(loops))
	}
	for h := 1; h <= n; h++ {
		end := 2*n + 1 - h
		if !isLoop(loops, h, upTo(h, end)) {
			t.Fatalf("the loop of %d = %v", h, loops[h-1])
		}
		if !slices.Equal(frontiers[h], upTo(1, h)) || !slices.Equal(frontiers[end], upTo(1, h)) {
			t.Fatalf("the frontiers of %d and %d = %v, %v", h, end, frontiers[h], frontiers[end])
		}
	}
}

// rails is two rows of n blocks, between which one goes to and fro everywhere: block 0 dominates each immediately.
func rails(n int) api.Func {
	to := [][]int{{1, n + 1}}
	for side := range 2 {
		here, there := 1+side*n, 1+(1-side)*n
		for i := range n - 1 {
			to = append(to, []int{here + i + 1, there + max(i-1, 0)})
		}
		to = append(to, []int{there + n - 1, there + max(n-2, 0)})
	}
	return graph(to...)
}

// comb is two rows, each block of which leads to one tooth: a tooth's ways meet far above.
func comb(n int) api.Func {
	to := [][]int{{1, n + 1}}
	for side := range 2 {
		for i := range n {
			to = append(to, []int{1 + 2*n + i, 1 + side*n + min(i+1, n-1)})
		}
	}
	for range n {
		to = append(to, nil)
	}
	return graph(to...)
}

// Forms of which going round until nothing changes, or up from each edge, could take long.
func TestFormsThatAreHard(t *testing.T) {
	began := time.Now()
	for _, n := range []int{1, 2, 3, 20} {
		expectAsModel(t, rails(n))
		expectAsModel(t, comb(n))
	}
	const n = 1300
	f := rails(n)
	mayBe(t, f)
	for b, dom := range Doms(f)[1:] {
		if dom != 0 {
			t.Fatalf("rails: Doms of %d is %d", b+1, dom)
		}
	}
	for b, l := range Frontiers(f)[1:] {
		if len(l) < 1 || len(l) > 2 {
			t.Fatalf("rails: the frontier of %d = %v", b+1, l)
		}
	}
	f = comb(n)
	mayBe(t, f)
	doms := Doms(f)
	for i := range n {
		if doms[1+2*n+i] != 0 {
			t.Fatalf("comb: Doms of the tooth %d is %d", i, doms[1+2*n+i])
		}
	}
	Frontiers(f)
	Loops(f)
	if d := time.Since(began); d > 20*time.Second {
		t.Errorf("it took %v", d)
	}
}

// Great random functions end soon.
func TestGreatRandomFunctionsEnd(t *testing.T) {
	r := rand.New(rand.NewSource(9))
	began := time.Now()
	for _, reach := range []int{1, 2, 3, 5, 20, 300, api.MaxBlocks} {
		f := randomGraph(r, api.MaxBlocks, reach)
		if len(Doms(f)) != api.MaxBlocks || len(Frontiers(f)) != api.MaxBlocks {
			t.Errorf("reach %d: the answers are too short", reach)
		}
		Loops(f)
	}
	if d := time.Since(began); d > 20*time.Second {
		t.Errorf("it took %v", d)
	}
}

package order

import (
	"math/rand"
	"slices"
	"testing"

	"crucible/api"
	"crucible/ir"
)

// manyGraphs tells functions of all sizes up to the greatest that may be.
func manyGraphs(t *testing.T, each func(r *rand.Rand, f api.Func)) {
	r := rand.New(rand.NewSource(3))
	for _, n := range []int{1, 2, 10, 100, 100, 1000, 1000, api.MaxBlocks, api.MaxBlocks} {
		for _, reach := range []int{2, 10, 100, n} {
			f := randomGraph(r, n, reach)
			mayBe(t, f)
			each(r, f)
		}
		f := loopedGraph(r, n)
		mayBe(t, f)
		each(r, f)
	}
}

// Or3: each block's dominators are its immediate dominator's, and it.
func TestDominatorsAreTheNextOnes(t *testing.T) {
	manyGraphs(t, func(r *rand.Rand, f api.Func) {
		doms, reached := Doms(f), ir.Reached(f)
		for range 300 {
			a, b := r.Intn(len(f.Blocks)), r.Intn(len(f.Blocks))
			if r.Intn(2) == 0 && doms[b] >= 0 {
				a = doms[b]
			}
			if (doms[b] >= 0) != (reached[b] && b > 0) {
				t.Fatalf("%v: Doms of %d is %d", edges(f), b, doms[b])
			}
			want := reached[b] && (a == b || doms[b] >= 0 && Dominates(f, a, doms[b]))
			if Dominates(f, a, b) != want {
				t.Fatalf("%v: Dominates of %d and %d", edges(f), a, b)
			}
		}
	})
}

// Or3: a loop's header dominates its blocks; two loops are apart, or one has the other's header.
func TestLoopsAreApartOrWithin(t *testing.T) {
	count := 0
	manyGraphs(t, func(r *rand.Rand, f api.Func) {
		doms, loops := Doms(f), Loops(f)
		count += len(loops)
		for i, x := range loops {
			if !slices.IsSorted(x.Blocks) || i > 0 && loops[i-1].Header >= x.Header {
				t.Fatalf("%v: loops do not rise: %v", edges(f), loops)
			}
			for _, b := range x.Blocks {
				if !isAbove(doms, x.Header, b) {
					t.Fatalf("%v: the header %d does not dominate %d", edges(f), x.Header, b)
				}
			}
		}
		for range 1000 {
			if len(loops) < 2 {
				break
			}
			x, y := loops[r.Intn(len(loops))], loops[r.Intn(len(loops))]
			meet := slices.ContainsFunc(x.Blocks, func(b int) bool { return has(y.Blocks, b) })
			if meet && !has(x.Blocks, y.Header) && !has(y.Blocks, x.Header) {
				t.Fatalf("%v: neither apart nor within: %v, %v", edges(f), x, y)
			}
		}
	})
	if count < 1000 {
		t.Errorf("%d loops: the test says little", count)
	}
}

func has(rising []int, b int) bool {
	_, ok := slices.BinarySearch(rising, b)
	return ok
}

// Or3: in Postorder a block stands ahead of its immediate dominator. Or2: each that is reached stands there once.
func TestPostorderEndsWithDominators(t *testing.T) {
	manyGraphs(t, func(r *rand.Rand, f api.Func) {
		doms, reached, post := Doms(f), ir.Reached(f), Postorder(f)
		place := nones(len(f.Blocks))
		for i, b := range post {
			if !reached[b] || place[b] != none {
				t.Fatalf("%v: %d stands in Postorder, reached: %v", edges(f), b, reached[b])
			}
			place[b] = i
		}
		for b := range f.Blocks {
			if reached[b] != (place[b] != none) {
				t.Fatalf("%v: %d is missing in Postorder", edges(f), b)
			}
			if doms[b] != none && place[b] >= place[doms[b]] {
				t.Fatalf("%v: %d stands behind its dominator %d", edges(f), b, doms[b])
			}
		}
	})
}

// Or1: a frontier rises, and is what the words say of some blocks of great functions.
func TestFrontiersOfGreatFunctions(t *testing.T) {
	manyGraphs(t, func(r *rand.Rand, f api.Func) {
		doms, reached, frontiers := Doms(f), ir.Reached(f), Frontiers(f)
		for range 20 {
			a := r.Intn(len(f.Blocks))
			over := make([]bool, len(f.Blocks))
			for i, b := range f.Blocks {
				for _, to := range b.To {
					over[to] = over[to] || reached[i] && isAbove(doms, a, i)
				}
			}
			var want []int
			for b, is := range over {
				if is && (a == b || !isAbove(doms, a, b)) {
					want = append(want, b)
				}
			}
			if !slices.Equal(frontiers[a], want) {
				t.Fatalf("%v: the frontier of %d = %v, want %v", edges(f), a, frontiers[a], want)
			}
		}
	})
}

package ir

import (
	"math"
	"math/rand"
	"slices"
	"testing"

	"crucible/api"
)

// graphs are To of each block, what its predecessors are, and whether it is reached.
var graphs = []struct {
	name    string
	to      [][]int
	preds   [][]int
	reached []bool
}{
	{"none", nil, nil, nil},
	{"one", [][]int{{}}, [][]int{{}}, []bool{true}},
	{"itself", [][]int{{0}}, [][]int{{0}}, []bool{true}},
	{"counting", [][]int{{1}, {2, 3}, {1}, {}}, [][]int{{}, {0, 2}, {1}, {1}}, []bool{true, true, true, true}},
	{"both ways one", [][]int{{1, 1}, {}}, [][]int{{}, {0}}, []bool{true, true}},
	{"not reached", [][]int{{2}, {2}, {}}, [][]int{{}, {}, {0, 1}}, []bool{true, false, true}},
	{"not reached, around", [][]int{{}, {2}, {1, 0}}, [][]int{{2}, {2}, {1}}, []bool{true, false, false}},
	{"backward", [][]int{{3}, {}, {1}, {2}}, [][]int{{}, {2}, {3}, {0}}, []bool{true, true, true, true}},
	{"beyond", [][]int{{2, 1}, {-1, 5}}, [][]int{{}, {0}}, []bool{true, true}},
	{"far beyond", [][]int{{math.MaxInt, math.MinInt}, {0}}, [][]int{{1}, {}}, []bool{true, false}},
	{"three and more", [][]int{{2, 1, 2, 1, 9, 2}, {}, {1, 1, 1}}, [][]int{{}, {0, 2}, {0}}, []bool{true, true, true}},
}

func TestPredsAndReached(t *testing.T) {
	for _, g := range graphs {
		f := graph(g.to...)
		if l := Preds(f); !slices.EqualFunc(l, g.preds, slices.Equal) {
			t.Errorf("%s: Preds = %v, want %v", g.name, l, g.preds)
		}
		if l := Reached(f); !slices.Equal(l, g.reached) {
			t.Errorf("%s: Reached = %v, want %v", g.name, l, g.reached)
		}
	}
}

// The successors of a block are its To, whatever its End says, and whatever its instructions are.
func TestPredsAndReachedGoByToAlone(t *testing.T) {
	for _, end := range []int{-1, 0, api.EndJump, api.EndBranch, api.EndReturn, 9} {
		f := api.Func{Regs: -3, Blocks: []api.Block{{End: end, Arg: -9, To: []int{1}}, {End: end, Code: []api.Instr{{Op: -1}}}}}
		if l := Preds(f); !slices.EqualFunc(l, [][]int{{}, {0}}, slices.Equal) {
			t.Errorf("End %d: Preds = %v", end, l)
		}
		if l := Reached(f); !slices.Equal(l, []bool{true, true}) {
			t.Errorf("End %d: Reached = %v", end, l)
		}
	}
}

func randomGraph(r *rand.Rand) api.Func {
	to := make([][]int, r.Intn(9))
	for i := range to {
		for range r.Intn(4) {
			to[i] = append(to[i], r.Intn(len(to)+2)-1)
		}
	}
	return graph(to...)
}

// A block is a predecessor of its successors, and of no others.
func TestPredsOfRandomGraphs(t *testing.T) {
	r := rand.New(rand.NewSource(14))
	for range 5000 {
		f := randomGraph(r)
		preds := Preds(f)
		if len(preds) != len(f.Blocks) {
			t.Fatalf("%v: %d lists of %d blocks", f.Blocks, len(preds), len(f.Blocks))
		}
		for i := range f.Blocks {
			var want []int
			for j, b := range f.Blocks {
				if slices.Contains(b.To, i) {
					want = append(want, j)
				}
			}
			if !slices.Equal(preds[i], want) {
				t.Fatalf("%v: of block %d Preds = %v, want %v", f.Blocks, i, preds[i], want)
			}
		}
	}
}

// Block 0 is reached, and what can be come to in as many steps as there are blocks.
func TestReachedOfRandomGraphs(t *testing.T) {
	r := rand.New(rand.NewSource(41))
	for range 5000 {
		f := randomGraph(r)
		want := make([]bool, len(f.Blocks))
		for range f.Blocks {
			want[0] = true
			for i, b := range f.Blocks {
				for _, to := range b.To {
					if want[i] && to >= 0 && to < len(want) {
						want[to] = true
					}
				}
			}
		}
		if l := Reached(f); !slices.Equal(l, want) {
			t.Fatalf("%v: Reached = %v, want %v", f.Blocks, l, want)
		}
	}
}

func TestPredsAreListsOfTheirOwn(t *testing.T) {
	f := graph([]int{1, 2}, []int{3}, []int{3}, nil)
	l := Preds(f)
	for i := range l {
		l[i] = append(l[i], 70+i)
		whole := l[i][:cap(l[i])]
		for j := range whole {
			whole[j] = -1 - i
		}
	}
	for i := range l {
		for _, n := range l[i] {
			if n != -1-i {
				t.Fatalf("lists share memory: %v", l)
			}
		}
	}
	if again := Preds(f); !slices.EqualFunc(again, [][]int{{}, {0}, {0}, {1, 2}}, slices.Equal) {
		t.Errorf("Preds = %v afterwards", again)
	}
}

// A row of blocks is as long as a walk may be deep.
func TestLongRows(t *testing.T) {
	const n = 1 << 20
	f := api.Func{Blocks: make([]api.Block, n)}
	for i := range f.Blocks {
		f.Blocks[i].To = []int{i + 1}
	}
	preds, reached := Preds(f), Reached(f)
	for i := 1; i < n; i++ {
		if !reached[i] || len(preds[i]) != 1 || preds[i][0] != i-1 {
			t.Fatalf("block %d: %v, %v", i, reached[i], preds[i])
		}
	}
}

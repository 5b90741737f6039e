package order

import (
	"math"
	"math/rand"
	"testing"

	"crucible/api"
)

// ask makes each call: R1 asks that they end, without a panic.
func ask(f api.Func) {
	Doms(f)
	Frontiers(f)
	Loops(f)
	Postorder(f)
	Dominates(f, 0, len(f.Blocks)-1)
}

// askAll asks Dominates of what are blocks and what are none, too.
func askAll(f api.Func) {
	ask(f)
	for _, a := range strangeBlocks(f) {
		for _, b := range strangeBlocks(f) {
			Dominates(f, a, b)
		}
	}
}

func strangeBlocks(f api.Func) []int {
	return []int{math.MinInt, -2, -1, 0, 1, len(f.Blocks) - 1, len(f.Blocks), math.MaxInt}
}

// R1, Or1: what is no block dominates none, and is dominated by none.
func TestDominatesOfNoBlocks(t *testing.T) {
	f := graph([]int{1}, nil)
	for _, no := range []int{math.MinInt, -2, -1, 2, 3, math.MaxInt} {
		for _, other := range []int{0, 1, no} {
			if Dominates(f, no, other) || Dominates(f, other, no) {
				t.Errorf("Dominates of %d and %d", no, other)
			}
		}
	}
}

func TestNothing(t *testing.T) {
	var f api.Func
	askAll(f)
	if len(Doms(f))+len(Frontiers(f))+len(Loops(f))+len(Postorder(f)) > 0 || Dominates(f, 0, 0) {
		t.Error("a function of no blocks has something")
	}
}

func TestStrangeFunctions(t *testing.T) {
	for _, to := range [][][]int{
		{{0}}, {{0, 0}}, {{1}, {0}}, {{-1}}, {{5, 7}}, {{math.MaxInt, math.MinInt}, {0}}, {{1, 1, 1}, {0, 2}, {3}},
		{{3, 2, 1}, {0}, {1}, {2, 2, -5}}, {{1, -1, 2}, {9, 2, 2}, {0, 1, 2}},
	} {
		askAll(graph(to...))
	}
	r := rand.New(rand.NewSource(71))
	for range 20000 {
		to := make([][]int, r.Intn(8))
		for i := range to {
			for range r.Intn(5) {
				to[i] = append(to[i], r.Intn(len(to)+3)-1)
			}
		}
		f := graph(to...)
		if len(f.Blocks) > 0 {
			b := &f.Blocks[r.Intn(len(f.Blocks))]
			b.End, b.Arg = r.Intn(9)-2, r.Intn(9)-4
			b.Code = []api.Instr{{Op: r.Intn(20) - 2, Dst: -9, Pred: []int{-1}}}
		}
		askAll(f)
	}
}

// Functions greater than any that may be: rows, loops within one another, and blocks of very many To.
func TestTooGreatFunctions(t *testing.T) {
	const n = 1 << 20
	row := api.Func{Blocks: make([]api.Block, n)}
	for i := range row.Blocks {
		row.Blocks[i].To = []int{i + 1}
	}
	ask(row)
	ask(nested(n / 2))
	ask(rails(n / 2))
	ask(comb(n / 3))

	most := make([]int, n)
	for i := range most {
		most[i] = i
	}
	ask(graph(append([][]int{most}, make([][]int, 1000)...)...))
	all := api.Func{Blocks: make([]api.Block, 2048)}
	for i := range all.Blocks {
		all.Blocks[i].To = most[:2048]
	}
	ask(all)
}

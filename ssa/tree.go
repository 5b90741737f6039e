package ssa

import (
	"slices"

	"crucible/api"
	"crucible/order"
)

// tree is how the blocks of a function dominate one another; all of them are reached.
type tree struct {
	above []int // of each block its immediate dominator, or none
	// The blocks stand in a row, each ahead of all that it dominates, which are next to one another.
	place []int
	size  []int // how many blocks it dominates
}

func treeOf(f api.Func) tree {
	n := len(f.Blocks)
	t := tree{above: order.Doms(f), place: make([]int, n), size: make([]int, n)}
	// In it a block stands ahead of its immediate dominator.
	post := order.Postorder(f)
	for _, b := range post {
		t.size[b]++
		if above := t.above[b]; above != none {
			t.size[above] += t.size[b]
		}
	}
	free := make([]int, n) // of each block the first place behind it that is still free for one below
	for _, b := range slices.Backward(post) {
		if above := t.above[b]; above != none {
			t.place[b] = free[above]
			free[above] += t.size[b]
		}
		free[b] = t.place[b] + 1
	}
	return t
}

func (t tree) dominates(a, b int) bool {
	return t.place[a] <= t.place[b] && t.place[b] < t.place[a]+t.size[a]
}

// below is of each block those whose immediate dominator it is.
func (t tree) below() [][]int {
	l := make([][]int, len(t.above))
	for b, above := range t.above {
		if above != none {
			l[above] = append(l[above], b)
		}
	}
	return l
}

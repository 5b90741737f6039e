package asm

import (
	"cmp"
	"math"
	"slices"

	"crucible/api"
)

// reach is how many words may lie between a short branch and its label: the branch itself is not among them, so it is the same both ways.
const reach = 1<<15 - 1

// branch is an InsZero or InsNot with To.
type branch struct {
	at   int // which instruction it is
	low  int // between it and its label lie the instructions from low on ..
	high int // .. and below high
}

// branches is all branches with To.
func branches(l []api.Line, labels map[int]int) []branch {
	var list []branch
	k := 0
	for _, x := range l {
		if isLabel(x) {
			continue
		}
		if x.To != 0 && asks(x.Ins.Op) {
			list = append(list, branchTo(k, labels[x.To]))
		}
		k++
	}
	return list
}

// branchTo is instruction k as a branch to a label ahead of which so many instructions lie.
func branchTo(k, label int) branch {
	if label > k {
		return branch{k, k + 1, label}
	}
	return branch{k, label, k}
}

// longOnes is which instructions become long. In which order they do so does not matter, since a branch never comes nearer to its label again: so they do it one by one.
func longOnes(list []branch) []int {
	var long []int
	var unsure []branch
	for _, b := range list {
		between := b.high - b.low
		if between > reach {
			long = append(long, b.at)
		} else if 2*between > reach {
			// All others reach even if all between is long.
			unsure = append(unsure, b)
		}
	}
	if len(long) == 0 {
		return nil
	}
	t := newTree(unsure)
	// The list grows while it is gone through.
	for done := 0; done < len(long); done++ {
		long = t.push(long[done], long)
	}
	return long
}

// tree is short branches in groups, each of two smaller ones: 1 is the greatest, and 2k and 2k+1 are the halves of k. Each long branch takes room from all that lead over it, and there may be very many of both: so it is taken from whole groups where that can be.
type tree []group

// group is bounds of its branches.
type group struct {
	at                 int // which instruction it is, if it is one branch; else -1
	leastLow, mostLow  int
	leastHigh, topHigh int
	room               int // how many words more may come into each
	taken              int // room that was taken from it, and not yet from its halves
}

// newTree is the tree of branches, which it orders anew.
func newTree(list []branch) tree {
	t := make(tree, 4*len(list)+2)
	t[1] = none()
	if len(list) > 0 {
		t.build(1, list, true)
	}
	return t
}

// none is a group without branches.
func none() group {
	return group{at: -1, leastLow: math.MaxInt, mostLow: math.MinInt, leastHigh: math.MaxInt, topHigh: math.MinInt, room: math.MaxInt}
}

// build makes group k of branches. Halves are parted by low and by high in turn: so an instruction lies within the bounds of few groups but not within all their branches.
func (t tree) build(k int, list []branch, byLow bool) {
	if len(list) == 1 {
		b := list[0]
		t[k] = group{at: b.at, leastLow: b.low, mostLow: b.low, leastHigh: b.high, topHigh: b.high, room: reach - (b.high - b.low)}
		return
	}
	slices.SortFunc(list, func(a, b branch) int {
		if byLow {
			return cmp.Compare(a.low, b.low)
		}
		return cmp.Compare(a.high, b.high)
	})
	t.build(2*k, list[:len(list)/2], !byLow)
	t.build(2*k+1, list[len(list)/2:], !byLow)
	t[k] = both(t[2*k], t[2*k+1])
}

// both is the group of two halves.
func both(a, b group) group {
	return group{
		at:        -1,
		leastLow:  min(a.leastLow, b.leastLow),
		mostLow:   max(a.mostLow, b.mostLow),
		leastHigh: min(a.leastHigh, b.leastHigh),
		topHigh:   max(a.topHigh, b.topHigh),
		room:      min(a.room, b.room),
	}
}

// take takes so much room from all of a group.
func (g *group) take(n int) {
	g.room -= n
	g.taken += n
}

// push takes a word of room from all branches that lead over an instruction; those that become long so leave the tree, and come behind the long ones that are there.
func (t tree) push(over int, long []int) []int {
	return t.pushGroup(1, over, long)
}

func (t tree) pushGroup(k, over int, long []int) []int {
	g := &t[k]
	if g.leastLow > over || g.topHigh <= over {
		return long
	}
	if g.mostLow <= over && g.leastHigh > over {
		if g.room > 0 {
			g.take(1)
			return long
		}
		if g.at >= 0 {
			long = append(long, g.at)
			*g = none()
			return long
		}
	}
	t[2*k].take(g.taken)
	t[2*k+1].take(g.taken)
	long = t.pushGroup(2*k, over, long)
	long = t.pushGroup(2*k+1, over, long)
	*g = both(t[2*k], t[2*k+1])
	return long
}

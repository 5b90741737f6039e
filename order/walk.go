package order

import "crucible/api"

// none stands where no block is.
const none = -1

// walk is a walk from block 0 by successors, which comes to each block that is reached once.
type walk struct {
	came  []int // the blocks as it comes to them
	left  []int // the blocks as it leaves them
	place []int // of each block its place in came, or none
	from  []int // of each block that from which it comes to it, or none
}

// walked goes by jumps, and back by from: blocks may lie deeper than calls can.
func walked(f api.Func) walk {
	w := walk{place: nones(len(f.Blocks)), from: nones(len(f.Blocks))}
	tried := make([]int, len(f.Blocks)) // how many of a block's To it has looked at
	at, to := 0, 0
	if len(f.Blocks) == 0 {
		return w
	}
come:
	w.place[at] = len(w.came)
	w.came = append(w.came, at)
look:
	if tried[at] == len(f.Blocks[at].To) {
		goto leave
	}
	to = f.Blocks[at].To[tried[at]]
	tried[at]++
	if !w.isNew(to) {
		goto look
	}
	w.from[to] = at
	at = to
	goto come
leave:
	w.left = append(w.left, at)
	at = w.from[at]
	if at != none {
		goto look
	}
	return w
}

// isNew tells whether it is a block to which the walk has not come yet.
func (w *walk) isNew(to int) bool {
	return to >= 0 && to < len(w.place) && w.place[to] == none
}

func nones(n int) []int {
	l := make([]int, n)
	for i := range l {
		l[i] = none
	}
	return l
}

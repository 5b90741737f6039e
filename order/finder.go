package order

// finder finds immediate dominators in Lengauer and Tarjan's way: its steps are about as many as the edges, whatever
// these are like. (To go round until nothing changes would be shorter, but can take the cube of the blocks.)
// Blocks are told by their places in a walk, so that the walk's way to one leads through lesser ones.
type finder struct {
	above []int // the place from which the walk came
	semi  []int // the least place from which a way leads there through greater ones alone
	dom   []int // what is known of the immediate dominator

	// Places that are done hang in trees: to ask for the least semi on the way up makes that way shorter.
	up   []int // the next one up, or none
	best []int // the one of the least semi from there on, below up
	way  []int // room for a way up

	// Places wait at their semi until all between are done: a list of each one.
	waiting []int // the first that waits there, or none
	next    []int // the one behind it in its list, or none
}

func newFinder(w walk) *finder {
	n := len(w.came)
	d := &finder{above: nones(n), semi: make([]int, n), dom: nones(n), up: nones(n), best: make([]int, n),
		waiting: nones(n), next: nones(n)}
	for i, block := range w.came {
		d.semi[i], d.best[i] = i, i
		if i > 0 {
			d.above[i] = w.place[w.from[block]]
		}
	}
	return d
}

// dominators is the place of each place's immediate dominator; preds are those of blocks, reached ones alone.
func dominators(w walk, preds [][]int) []int {
	d := newFinder(w)
	for i := len(w.came) - 1; i > 0; i-- {
		for _, block := range preds[w.came[i]] {
			d.semi[i] = min(d.semi[i], d.semi[d.least(w.place[block])])
		}
		d.wait(i)
		d.up[i] = d.above[i]
		d.settle(d.above[i])
	}
	for i := 1; i < len(w.came); i++ {
		if d.dom[i] != d.semi[i] {
			d.dom[i] = d.dom[d.dom[i]]
		}
	}
	return d.dom
}

func (d *finder) wait(i int) {
	d.next[i] = d.waiting[d.semi[i]]
	d.waiting[d.semi[i]] = i
}

// settle gives those that wait at a place their dominators, or others that have the same one.
func (d *finder) settle(place int) {
	for i := d.waiting[place]; i != none; i = d.next[i] {
		d.dom[i] = place
		if u := d.least(i); d.semi[u] < place {
			d.dom[i] = u
		}
	}
	d.waiting[place] = none
}

// least is the place of the least semi on the way up from one, without the top.
func (d *finder) least(i int) int {
	if d.up[i] == none {
		return i
	}
	d.way = d.way[:0]
	for at := i; d.up[d.up[at]] != none; at = d.up[at] {
		d.way = append(d.way, at)
	}
	for len(d.way) > 0 {
		at := d.way[len(d.way)-1]
		d.way = d.way[:len(d.way)-1]
		up := d.up[at]
		if d.semi[d.best[up]] < d.semi[d.best[at]] {
			d.best[at] = d.best[up]
		}
		d.up[at] = d.up[up]
	}
	return d.best[i]
}

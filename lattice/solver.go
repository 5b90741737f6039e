package lattice

// maxHeight is how many values may stand one above the other above another one.
const maxHeight = 65536

// patience is how many calls of Flow a node are waited for: many more than a problem that is monotone needs, but
// others may never settle.
const patience = 64 * maxHeight

// solver goes round the nodes until the Out of each is Flow of its In.
type solver[V any] struct {
	problem Problem[V]
	succs   [][]int
	order   []int // the nodes as a round comes to them
	place   []int // of each node its place in order
	stale   queue // places of nodes whose In has changed since Flow was asked of it
	in, out []V
}

// newSolver knows of each node what comes from outside alone; no node was asked yet.
func newSolver[V any](p Problem[V]) *solver[V] {
	s := &solver[V]{problem: p, succs: successors(p.Nodes, p.Edges), place: make([]int, p.Nodes),
		stale: queueFor(p.Nodes), in: make([]V, p.Nodes), out: make([]V, p.Nodes)}
	s.order = roundOrder(s.succs)
	for place, node := range s.order {
		s.place[node] = place
		s.stale.add(place)
	}
	for node := range p.Nodes {
		s.in[node], s.out[node] = p.Start(node), p.Bottom
	}
	return s
}

// settle tells whether it came to an end with so many calls of Flow.
func (s *solver[V]) settle(most int64) bool {
	enough := patience * int64(len(s.order))
	for calls := int64(0); ; calls++ {
		place := s.stale.take()
		if place == none {
			return true
		}
		if calls == most {
			return false
		}
		if calls == enough {
			return true
		}
		s.flow(s.order[place])
	}
}

// flow makes a node's Out anew, and joins it to what comes to its successors.
//
// Outs only rise, so what was joined to an In before is below what is joined now, and need not be taken away.
func (s *solver[V]) flow(node int) {
	p := &s.problem
	old := s.out[node]
	s.out[node] = p.Flow(node, s.in[node])
	if p.Equal(s.out[node], old) {
		return
	}
	for _, to := range s.succs[node] {
		joined := p.Join(s.in[to], s.out[node])
		// Without the comparison Flow would be asked more often than a value can rise.
		if !p.Equal(joined, s.in[to]) {
			s.in[to] = joined
			s.stale.add(s.place[to])
		}
	}
}

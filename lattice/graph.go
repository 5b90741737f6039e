package lattice

import "slices"

// successors is of each node those to which edges go, rising, each once: the order of edges is not in it.
func successors(nodes int, edges [][2]int) [][]int {
	given := make([][]int, nodes)
	for _, edge := range edges {
		given[edge[0]] = append(given[edge[0]], edge[1])
	}
	return turned(turned(given))
}

// turned is of each node the nodes that have it in their lists, rising, each once.
func turned(lists [][]int) [][]int {
	l := make([][]int, len(lists))
	for from, list := range lists {
		for _, to := range list {
			if !endsWith(l[to], from) {
				l[to] = append(l[to], from)
			}
		}
	}
	return l
}

func endsWith(l []int, n int) bool { return len(l) > 0 && l[len(l)-1] == n }

// roundOrder is the nodes so that each stands behind those from which edges come to it, but for edges that close
// cycles: values come far in one round.
func roundOrder(succs [][]int) []int {
	seen := make([]bool, len(succs))
	left := make([]int, 0, len(succs))
	var visit func(node int)
	visit = func(node int) {
		if seen[node] {
			return
		}
		seen[node] = true
		for _, to := range succs[node] {
			visit(to)
		}
		left = append(left, node)
	}
	for node := range succs {
		visit(node)
	}
	slices.Reverse(left)
	return left
}

// queue is places that wait. They are taken in rounds, each round rising, so that none waits for ever.
type queue struct {
	waiting row
	at      int // where the round is
}

// queueFor is one in which nothing waits, with room for places below n.
func queueFor(n int) queue { return queue{waiting: rowFor(n)} }

func (q *queue) add(place int) { q.waiting.add(place) }

// take is the place whose turn it is, which waits no more, or none.
func (q *queue) take() int {
	place := q.waiting.next(q.at)
	if place == none {
		place = q.waiting.next(0)
	}
	if place == none {
		return none
	}
	q.waiting.remove(place)
	q.at = place + 1
	return place
}

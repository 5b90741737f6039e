package sample

import "crucible/api"

// Spoil changes some terms of a checked program by choices, so that it may be none any more.
func Spoil(c *api.Checked, choose func(n int) int) {
	var terms []*api.Term
	for i := range c.Routines {
		terms = gathered(terms, &c.Routines[i].Body)
	}
	for range 1 + choose(3) {
		spoil(terms[choose(len(terms))], *terms[choose(len(terms))], choose)
	}
}

// gathered are the terms ahead, and all of a term.
func gathered(ahead []*api.Term, t *api.Term) []*api.Term {
	ahead = append(ahead, t)
	for i := range t.Kids {
		ahead = gathered(ahead, &t.Kids[i])
	}
	return ahead
}

func spoil(t *api.Term, other api.Term, choose func(n int) int) {
	some := []int{-1, 0, 1, 2, 3, 5, 1000, 1 << 31, 1<<63 - 1, -1 << 63}[choose(10)]
	switch choose(10) {
	case 0:
		t.Kind = choose(55)
	case 1:
		t.Var = some
	case 2:
		t.Field = some
	case 3:
		t.Len = some
	case 4:
		t.Elem = some
	case 5:
		t.Func = some
	case 6:
		t.Kids = t.Kids[:choose(len(t.Kids)+1)]
	case 7:
		t.Global = !t.Global
	case 8:
		t.Op = some
	case 9:
		*t = other
	}
}

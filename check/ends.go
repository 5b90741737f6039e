package check

import "crucible/api"

// maxTerms is more than fit into the 2^31 bytes that a call may be given: only terms whose kids lead back to themselves, or that share their kids, have as many.
const maxTerms = 20_000_000

// Ends tells whether a checked statement never comes to its end but by a return.
func Ends(t api.Term) bool {
	w := walk{left: maxTerms}
	return w.ends(&t)
}

// walk goes through statements from lists, since they may lie as deep as there are terms.
type walk struct {
	left int // how many terms may still be gone through
}

func (w *walk) spend() bool {
	w.left--
	return w.left >= 0
}

// rest is a statement some of whose kids are still to be asked.
type rest struct {
	of   *api.Term
	next int32 // the first of these
	any  bool  // one kid that ends is enough; else all must end
}

func (w *walk) ends(t *api.Term) bool {
	var waiting []rest
	for w.spend() {
		r, several := parts(t)
		ended := !r.any
		if several {
			waiting = append(waiting, r)
		} else {
			ended = w.endsAlone(t)
		}
		waiting = undecided(waiting, ended)
		if len(waiting) == 0 {
			return ended
		}
		t, waiting = nextOf(waiting)
	}
	return false
}

// parts are the kids of which it hangs whether a statement ends; false: it does not hang on any.
func parts(t *api.Term) (rest, bool) {
	switch {
	case t.Kind == api.TermBlock:
		return rest{of: t, any: true}, true
	case t.Kind == api.TermIf && len(t.Kids) == 3:
		return rest{of: t, next: 1}, true
	}
	return rest{}, false
}

// undecided is without those statements around that are decided by whether the last one within them ended.
func undecided(waiting []rest, ended bool) []rest {
	last := len(waiting) - 1
	for last >= 0 && (ended == waiting[last].any || int(waiting[last].next) == len(waiting[last].of.Kids)) {
		last--
	}
	return waiting[:last+1]
}

// nextOf is the next kid that is to be asked. With its last kid a statement is decided, whatever that says: it need not wait any more.
func nextOf(waiting []rest) (*api.Term, []rest) {
	last := len(waiting) - 1
	r := &waiting[last]
	kid := &r.of.Kids[r.next]
	r.next++
	if int(r.next) == len(r.of.Kids) {
		waiting = waiting[:last]
	}
	return kid, waiting
}

// endsAlone is of statements of which parts knows nothing.
func (w *walk) endsAlone(t *api.Term) bool {
	switch {
	case t.Kind == api.TermReturn:
		return true
	case t.Kind == api.TermWhile && len(t.Kids) == 2:
		return always(&t.Kids[0]) && !w.breaks(t.Kids[1:])
	case t.Kind == api.TermDo && len(t.Kids) == 2:
		return always(&t.Kids[1]) && !w.breaks(t.Kids[:1])
	case t.Kind == api.TermFor && len(t.Kids) == 4:
		test := &t.Kids[1]
		return (always(test) || test.Kind == api.TermNone) && !w.breaks(t.Kids[3:])
	}
	return false
}

// always tells whether a test holds in each round.
func always(t *api.Term) bool { return t.Kind == api.TermConst && t.Imm != 0 }

// breaks tells whether a loop's body has a break of that loop, or too many terms to know.
func (w *walk) breaks(body []api.Term) bool {
	waiting := [][]api.Term{body}
	for len(waiting) > 0 {
		last := len(waiting) - 1
		row := waiting[last]
		waiting = waiting[:last]
		for i := range row {
			t := &row[i]
			if !w.spend() || t.Kind == api.TermBreak {
				return true
			}
			if (t.Kind == api.TermBlock || t.Kind == api.TermIf) && len(t.Kids) > 0 {
				waiting = append(waiting, t.Kids)
			}
		}
	}
	return false
}

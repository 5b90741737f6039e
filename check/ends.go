package check

import "crucible/api"

// Ends tells whether a checked statement never comes to its end but by a return.
func Ends(t api.Term) bool {
	return ask(question{row: []api.Term{t}, what: someEnds})
}

// What is asked of statements in a row.
const (
	someEnds   = iota // whether one of them ends
	allEnd            // whether each of them does
	noneBreaks        // whether none of them has a break of the loop around
)

// question is one that hangs on a row of statements, some of which may have been asked.
type question struct {
	row  []api.Term
	what int
	next int // the first that was not asked
	cost int // how many were asked, with those within them; not those within rows whose answers are kept
}

// mark is by what a question is known again: terms may share their kids, so that few rows are met very often.
type mark struct {
	first  *api.Term
	length int
	what   int
}

func (q *question) mark() mark { return mark{&q.row[0], len(q.row), q.what} }

// decided tells whether a question needs no more of its row's statements, when the last one said so.
func (q *question) decided(said bool) bool {
	return q.next == len(q.row) || q.next > 0 && said == (q.what == someEnds)
}

// answer is that of a question.
type answer struct {
	holds bool
}

// worth is from how many statements on an answer is kept: there may be millions of rows, and few are soon asked again.
const worth = 64

// maxRows is more rows, one within the other, than fit into the 2^31 bytes that a call may be given, unless one of them leads back to itself.
const maxRows = 20_000_000

// walk goes through statements. Questions wait in a list and do not call one another: statements may lie as deep as there are terms.
type walk struct {
	waiting []question
	said    bool // by the last statement, or row, that was asked
	answers map[mark]answer
}

// ask answers a question of a row that has statements.
func ask(first question) bool {
	w := walk{waiting: []question{first}, answers: map[mark]answer{}}
	for len(w.waiting) > 0 {
		q := &w.waiting[len(w.waiting)-1]
		if q.decided(w.said) {
			w.leave()
			continue
		}
		statement := &q.row[q.next]
		q.next++
		q.cost++
		within, alone := part(statement, q.what)
		w.said = alone
		if len(within.row) > 0 {
			w.enter(within)
		}
		if len(w.waiting) > maxRows {
			return false
		}
	}
	return w.said
}

// enter has a question wait, if its answer is not known.
func (w *walk) enter(q question) {
	a, known := w.answers[q.mark()]
	w.said = a.holds
	if known {
		return
	}
	w.waiting = append(w.waiting, q)
	if w.marked() {
		// It does not hold till it is answered: a row that leads back to itself would else be asked without end.
		w.answers[q.mark()] = answer{}
	}
}

// marked tells whether the last question is known while it waits: each row that leads back to itself comes, again and again, to such a depth.
func (w *walk) marked() bool { return len(w.waiting)%worth == 0 }

// leave ends the last question, whose answer was said.
func (w *walk) leave() {
	last := len(w.waiting) - 1
	q := &w.waiting[last]
	cost := q.cost
	if cost >= worth || w.marked() {
		w.answers[q.mark()] = answer{w.said}
		cost = 0
	}
	w.waiting = w.waiting[:last]
	if last > 0 {
		w.waiting[last-1].cost += cost
	}
}

// part is the question on which a statement's answer hangs; if that has no row: the answer itself.
func part(t *api.Term, what int) (question, bool) {
	if what == noneBreaks {
		return breakPart(t)
	}
	return endPart(t)
}

func breakPart(t *api.Term) (question, bool) {
	// A break within a loop within ends that one alone.
	if t.Kind == api.TermBlock || t.Kind == api.TermIf {
		return question{row: t.Kids, what: noneBreaks}, true
	}
	return question{}, t.Kind != api.TermBreak
}

func endPart(t *api.Term) (question, bool) {
	switch {
	case t.Kind == api.TermReturn:
		return question{}, true
	case t.Kind == api.TermBlock:
		return question{row: t.Kids, what: someEnds}, false
	case t.Kind == api.TermIf && len(t.Kids) == 3:
		return question{row: t.Kids[1:], what: allEnd}, false
	}
	return question{row: endlessBody(t), what: noneBreaks}, false
}

// endlessBody is the body of a loop that only a break, or a return, would end; of all else it is none.
func endlessBody(t *api.Term) []api.Term {
	switch {
	case t.Kind == api.TermWhile && len(t.Kids) == 2 && always(&t.Kids[0]):
		return t.Kids[1:]
	case t.Kind == api.TermDo && len(t.Kids) == 2 && always(&t.Kids[1]):
		return t.Kids[:1]
	case t.Kind == api.TermFor && len(t.Kids) == 4 && (always(&t.Kids[1]) || t.Kids[1].Kind == api.TermNone):
		return t.Kids[3:]
	}
	return nil
}

// always tells whether a test holds in each round.
func always(t *api.Term) bool { return t.Kind == api.TermConst && t.Imm != 0 }

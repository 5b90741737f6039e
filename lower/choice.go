package lower

import "crucible/api"

// test has control go to one of two labels, by whether an expression is not 0.
func (m *maker) test(t *api.Term, yes, no *label) step {
	return func() { m.decide(t, yes, no) }
}

func (m *maker) decide(t *api.Term, yes, no *label) {
	if m.here == nowhere {
		return
	}
	m.meet(t)
	switch {
	case t.Kind == api.TermConst && t.Imm == 0:
		m.jump(no)
	case t.Kind == api.TermConst:
		m.jump(yes)
	case t.Kind == api.TermAnd:
		both := newLabel()
		m.next(m.test(&t.Kids[0], both, no), m.placed(both), m.test(&t.Kids[1], yes, no))
	case t.Kind == api.TermOr:
		other := newLabel()
		m.next(m.test(&t.Kids[0], yes, other), m.placed(other), m.test(&t.Kids[1], yes, no))
	case isNot(t):
		m.next(m.test(&t.Kids[0], no, yes))
	default:
		m.next(m.value(t), func() { m.branch(m.pop(), yes, no) })
	}
}

// isNot tells whether an expression asks if another one is 0.
func isNot(t *api.Term) bool {
	return t.Kind == api.TermAlu && t.Op == api.AluEq && t.Kids[1].Kind == api.TermConst && t.Kids[1].Imm == 0
}

// truth reckons a TermAnd or TermOr.
func (m *maker) truth(t *api.Term) {
	m.hold()
	yes, end := newLabel(), newLabel()
	told := m.constant(0)
	m.next(m.test(t, yes, end), m.placed(yes), func() {
		m.emit(api.Instr{Op: api.OpConst, Dst: told, Imm: 1})
		m.place(end)
		m.push(told)
	})
}

// choose reckons a TermCond.
func (m *maker) choose(t *api.Term) {
	m.hold()
	yes, no, end := newLabel(), newLabel(), newLabel()
	told := m.fresh()
	take := func() { m.set(told, m.pop()) }
	m.next(m.test(&t.Kids[0], yes, no),
		m.placed(yes), m.value(&t.Kids[1]), take, m.jumped(end),
		m.placed(no), m.value(&t.Kids[2]), take, m.placed(end),
		func() { m.push(told) })
}

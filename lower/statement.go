package lower

import (
	"crucible/api"
	"crucible/types"
)

// loop is a loop around.
type loop struct {
	on  *label // where a round goes on that is not gone through to its end
	out *label
}

// statement has a statement done.
func (m *maker) statement(t *api.Term) step {
	return func() { m.do(t) }
}

func (m *maker) do(t *api.Term) {
	if m.here == nowhere {
		return
	}
	m.meet(t)
	switch t.Kind {
	case api.TermBlock:
		m.block(t)
	case api.TermEval:
		m.next(m.effect(&t.Kids[0]))
	case api.TermDecl:
		m.declare(t)
	case api.TermIf:
		m.either(t)
	case api.TermWhile:
		m.loop(&t.Kids[0], &api.Term{Kind: api.TermNone}, &t.Kids[1])
	case api.TermDo:
		m.loopDo(t)
	case api.TermFor:
		m.next(m.effect(&t.Kids[0]), func() { m.loop(&t.Kids[1], &t.Kids[2], &t.Kids[3]) })
	case api.TermBreak:
		m.jump(m.loops[len(m.loops)-1].out)
	case api.TermContinue:
		m.jump(m.loops[len(m.loops)-1].on)
	case api.TermReturn:
		m.giveBack(t)
	case api.TermNone:
	default:
		panic(tooGreat)
	}
}

func (m *maker) block(t *api.Term) {
	var steps []step
	for i := range t.Kids {
		steps = append(steps, m.statement(&t.Kids[i]))
	}
	m.next(steps...)
}

// effect has an expression reckoned whose value nobody uses, if it is there.
func (m *maker) effect(t *api.Term) step {
	return func() {
		if t.Kind != api.TermNone {
			m.next(m.value(t), func() { m.pop() })
		}
	}
}

func (m *maker) either(t *api.Term) {
	yes, no, end := newLabel(), newLabel(), newLabel()
	m.next(m.test(&t.Kids[0], yes, no), m.placed(yes), m.statement(&t.Kids[1]), func() {
		if len(t.Kids) == 2 {
			m.place(no)
			return
		}
		m.jump(end)
		m.place(no)
		m.next(m.statement(&t.Kids[2]), m.placed(end))
	})
}

// loop does the rounds of a TermWhile or TermFor.
func (m *maker) loop(test, each, body *api.Term) {
	head, in := newLabel(), newLabel()
	around := loop{on: newLabel(), out: newLabel()}
	m.open(head)
	m.next(m.entry(test, in, around.out), m.placed(in), m.round(body, around),
		m.placed(around.on), m.effect(each), m.jumped(head), m.placed(around.out))
}

// entry has a loop's test asked; nothing need be asked where it always holds.
func (m *maker) entry(test *api.Term, in, out *label) step {
	if test.Kind == api.TermNone || test.Kind == api.TermConst && test.Imm != 0 {
		return func() {}
	}
	return m.test(test, in, out)
}

func (m *maker) loopDo(t *api.Term) {
	head := newLabel()
	around := loop{on: newLabel(), out: newLabel()}
	m.open(head)
	m.next(m.round(&t.Kids[0], around), m.placed(around.on), m.test(&t.Kids[1], head, around.out), m.placed(around.out))
}

// round has a loop's body done.
func (m *maker) round(body *api.Term, around loop) step {
	return func() {
		m.loops = append(m.loops, around)
		m.next(m.statement(body), func() { m.loops = m.loops[:len(m.loops)-1] })
	}
}

func (m *maker) giveBack(t *api.Term) {
	if len(t.Kids) == 0 {
		m.finish(api.EndReturn, none)
		return
	}
	m.next(m.value(&t.Kids[0]), func() { m.finish(api.EndReturn, m.pop()) })
}

func (m *maker) declare(t *api.Term) {
	v := &m.routine.Vars[t.Var]
	if types.Scalar(v.Type) {
		m.declareScalar(t)
		return
	}
	if len(m.loops) > 0 {
		// Elsewhere it is done once a call, whose slots are 0 in the beginning.
		m.empty(t.Var)
	}
	var steps []step
	for i := range t.Kids {
		at := m.homes[t.Var].slot + i*width(v.Type.Elem)
		steps = append(steps, m.value(&t.Kids[i]), func() {
			m.store(spot{base: m.slot(at), wide: width(v.Type.Elem)}, m.pop())
		})
	}
	m.next(steps...)
}

func (m *maker) declareScalar(t *api.Term) {
	variable := m.homes[t.Var].register
	if len(t.Kids) == 0 {
		m.set(variable, m.constant(0))
		return
	}
	m.next(m.value(&t.Kids[0]), func() { m.set(variable, m.pop()) })
}

// fewWords is up to how many words are emptied one by one, without a loop.
const fewWords = 8

// empty makes an array or a struct 0.
func (m *maker) empty(variable int) {
	size, err := types.Size(m.routine.Vars[variable].Type, m.program.Records)
	need(err == api.OK)
	size = rounded(size)
	base, zero := m.slot(m.homes[variable].slot), m.constant(0)
	if size <= fewWords*wordSize {
		for at := 0; at < size; at += wordSize {
			m.store(spot{base, at, wordSize}, zero)
		}
		return
	}
	left, word := m.constant(size), m.constant(wordSize)
	again, end := newLabel(), newLabel()
	m.open(again)
	m.emit(api.Instr{Op: api.OpAlu, Dst: left, Alu: api.AluSub, Args: []int{left, word}})
	m.store(spot{m.alu(api.AluAdd, base, left), 0, wordSize}, zero)
	m.branch(left, again, end)
	m.place(end)
}

package lower

import (
	"slices"

	"crucible/api"
)

// value has an expression reckoned: its value waits then.
func (m *maker) value(t *api.Term) step {
	return func() { m.reckon(t) }
}

func (m *maker) reckon(t *api.Term) {
	if m.here == nowhere {
		m.push(0) // whoever waits for a value finds one, and nothing is added of it
		return
	}
	m.meet(t)
	switch t.Kind {
	case api.TermConst:
		m.push(m.constant(int(t.Imm)))
	case api.TermPlace:
		m.read(t)
	case api.TermAssign:
		m.assign(t)
	case api.TermConv:
		m.next(m.value(&t.Kids[0]), func() { m.push(m.converted(t.Type, m.pop())) })
	case api.TermAlu:
		m.next(m.value(&t.Kids[0]), m.value(&t.Kids[1]), func() { m.push(m.reckoned(t.Op)) })
	case api.TermAnd, api.TermOr:
		m.truth(t)
	case api.TermCond:
		m.choose(t)
	case api.TermCall:
		m.call(t)
	case api.TermGet:
		m.push(m.given(api.Instr{Op: api.OpGet}))
	case api.TermPut:
		m.next(m.value(&t.Kids[0]), m.put)
	default:
		panic(tooGreat)
	}
}

// reckoned is an operation's register, of the two values that wait.
func (m *maker) reckoned(op int) int {
	b := m.pop()
	return m.alu(op, m.pop(), b)
}

// converted is a value as a type has it.
func (m *maker) converted(kind, value int) int {
	if kind != api.TypeChar {
		return value
	}
	return m.alu(api.AluAnd, value, m.constant(0xff))
}

func (m *maker) put() {
	m.emit(api.Instr{Op: api.OpPut, Dst: none, Args: []int{m.pop()}})
	m.push(none)
}

func (m *maker) read(t *api.Term) {
	if m.inRegister(t) {
		m.push(m.homes[t.Var].register)
		return
	}
	m.locate(t, func(s spot) { m.push(m.load(s)) })
}

func (m *maker) assign(t *api.Term) {
	place := &t.Kids[0]
	switch {
	case m.inRegister(place):
		m.assignVariable(t, m.homes[place.Var].register)
	case t.Op == 0 && len(place.Kids) == 0:
		// The address is not kept while the value is reckoned.
		m.next(m.value(&t.Kids[1]), func() { m.store(m.first(place), m.values[len(m.values)-1]) })
	default:
		m.locate(place, func(s spot) { m.assignSpot(t, s) })
	}
}

func (m *maker) assignVariable(t *api.Term, variable int) {
	if t.Op != 0 {
		m.push(variable)
	}
	m.next(m.value(&t.Kids[1]), func() {
		m.set(variable, m.outcome(t))
		m.push(variable)
	})
}

func (m *maker) assignSpot(t *api.Term, s spot) {
	if t.Op != 0 {
		m.push(m.load(s))
	}
	m.next(m.value(&t.Kids[1]), func() {
		stored := m.outcome(t)
		m.store(s, stored)
		m.push(stored)
	})
}

// outcome is what an assignment stores, of the value that waits; with Op what lay there waits, too.
func (m *maker) outcome(t *api.Term) int {
	if t.Op == 0 {
		return m.pop()
	}
	return m.converted(t.Type, m.reckoned(t.Op))
}

// call reckons a TermCall.
func (m *maker) call(t *api.Term) {
	waiting := len(m.values)
	var steps []step
	for i := range t.Kids {
		steps = append(steps, m.argument(&t.Kids[i]))
	}
	m.next(append(steps, func() {
		x := api.Instr{Op: api.OpCall, Dst: none, Args: slices.Clone(m.values[waiting:]), Imm: int32(t.Func)}
		m.drop(waiting)
		if t.Type != api.TypeVoid {
			x.Dst = m.fresh()
		}
		m.emit(x)
		m.push(x.Dst)
	})...)
}

// argument has what is handed on wait: one register, of an array two.
func (m *maker) argument(t *api.Term) step {
	return func() {
		switch t.Kind {
		case api.TermArray:
			m.push(m.address(t))
			m.push(m.length(t))
		case api.TermStruct:
			m.push(m.address(t))
		default:
			m.reckon(t)
		}
	}
}

package lower

import (
	"crucible/api"
	"crucible/types"
)

// wordSize is how many bytes a word has.
const wordSize = 4

// home is where a variable of the routine is.
type home struct {
	register int // a scalar's; a reference's address (behind it, of an array: how many elements there are)
	slot     int // where an array or a struct lies
}

// house gives the routine's variables their homes, the parameters' first.
func (m *maker) house() {
	need(len(m.routine.Vars) <= api.MaxLocals)
	for i, v := range m.routine.Vars {
		m.homes = append(m.homes, m.homeOf(v.Type))
		if i < m.routine.Params {
			m.made.Params = m.made.Regs
		}
	}
}

func (m *maker) homeOf(t api.Type) home {
	switch {
	case types.Scalar(t):
		return home{register: m.reserve(true)}
	case t.Kind == api.TypeRefStruct:
		return home{register: m.reserve(false)}
	case t.Kind == api.TypeRefArray:
		address := m.reserve(false)
		m.reserve(false)
		return home{register: address}
	}
	size, err := types.Size(t, m.program.Records)
	need(err == api.OK)
	at := m.made.Slots
	m.made.Slots += rounded(size)
	need(m.made.Slots <= api.MaxFrame)
	return home{slot: at}
}

// reserve is a register for a variable.
func (m *maker) reserve(scalar bool) int {
	m.scalar = append(m.scalar, scalar)
	return m.fresh()
}

// isVariable tells whether a register is that of a scalar variable.
func (m *maker) isVariable(register int) bool {
	return register < len(m.scalar) && m.scalar[register]
}

// inRegister tells whether a term's variable is a scalar of the routine.
func (m *maker) inRegister(t *api.Term) bool {
	return !t.Global && types.Scalar(m.routine.Vars[t.Var].Type)
}

// isReference tells whether a term's variable stands for another one.
func (m *maker) isReference(t *api.Term) bool {
	if t.Global {
		return false
	}
	kind := m.routine.Vars[t.Var].Type.Kind
	return kind == api.TypeRefArray || kind == api.TypeRefStruct
}

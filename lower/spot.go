package lower

import "crucible/api"

// spot is where a scalar lies in memory.
type spot struct {
	base   int // the register of an address
	offset int // from there on
	wide   int // how many bytes it has
}

func width(kind int) int {
	if kind == api.TypeChar {
		return 1
	}
	return wordSize
}

func (m *maker) load(s spot) int {
	return m.given(api.Instr{Op: api.OpLoad, Args: []int{s.base}, Imm: int32(s.offset), Wide: s.wide})
}

func (m *maker) store(s spot, value int) {
	m.emit(api.Instr{Op: api.OpStore, Dst: none, Args: []int{s.base, value}, Imm: int32(s.offset), Wide: s.wide})
}

func (m *maker) slot(at int) int {
	return m.given(api.Instr{Op: api.OpSlot, Imm: int32(at)})
}

// first is where a place without an index lies; of an array: its first element; of a struct: its bytes.
func (m *maker) first(t *api.Term) spot {
	s := spot{wide: width(t.Elem)}
	switch {
	case t.Global:
		s.base = m.given(api.Instr{Op: api.OpGlobal, Imm: int32(m.program.Globals[t.Var].At + t.Field)})
	case m.isReference(t):
		s.base, s.offset = m.homes[t.Var].register, t.Field
	default:
		s.base = m.slot(m.homes[t.Var].slot + t.Field)
	}
	return s
}

// address is the register of where an array or a struct lies.
func (m *maker) address(t *api.Term) int {
	s := m.first(t)
	if s.offset == 0 {
		return s.base
	}
	return m.alu(api.AluAdd, s.base, m.constant(s.offset))
}

// length is the register of how many elements an array has.
func (m *maker) length(t *api.Term) int {
	if t.Len == -1 {
		return m.homes[t.Var].register + 1
	}
	return m.constant(t.Len)
}

// locate has it found where a TermPlace lies that is in no register, and something done with that.
func (m *maker) locate(t *api.Term, then func(s spot)) {
	if len(t.Kids) == 0 {
		then(m.first(t))
		return
	}
	index := &t.Kids[0]
	if index.Kind == api.TermConst && int(uint32(index.Imm)) < t.Len {
		s := m.first(t)
		s.offset += int(index.Imm) * s.wide
		then(s)
		return
	}
	m.next(m.value(index), func() { then(m.element(t, m.pop())) })
}

// element is where the element lies whose index is in a register.
func (m *maker) element(t *api.Term, index int) spot {
	inside := m.alu(api.AluLtU, index, m.length(t))
	m.emit(api.Instr{Op: api.OpCheck, Dst: none, Args: []int{inside}, Imm: api.TrapBounds})
	s := m.first(t)
	if s.wide == wordSize {
		index = m.alu(api.AluMul, index, m.constant(wordSize))
	}
	s.base = m.alu(api.AluAdd, s.base, index)
	return s
}

package lower

import "crucible/api"

// none is the Dst of an instruction that has none, and the Arg of an EndReturn that tells nothing.
const none = -1

// nowhere is no block.
const nowhere = -1

// maxTerms is more than a routine of layer 12 has whose function fits: a tree has at most 2^18 nodes, each of which becomes at most four terms, but for strings, which are at most 200 of 1023 bytes; and few terms are met twice.
const maxTerms = 1 << 21

// A step is something that is still to be done. Steps wait in a list and do not call one another: terms may be as deep as there are some.
type step func()

// maker makes a function of a routine.
type maker struct {
	program *api.Checked
	routine *api.Routine
	homes   []home // of the routine's variables
	scalar  []bool // of the first registers: whether a variable, which may be assigned to, has it

	made  api.Func
	here  int // the block that is added to; nowhere: control does not come here, and nothing is added
	head  int // the block where the latest loop begins; at first block 0, where none may
	code  int // how many instructions there are
	terms int // how many terms were met

	todo   []step // the next one last
	loops  []loop // those around, the innermost last
	values []int  // the registers of values that wait to be used, the latest last
	steady int    // so many of the first ones are in no variable's register
}

// run does a step, and all that comes of it.
func (m *maker) run(first step) {
	m.next(first)
	for len(m.todo) > 0 {
		last := len(m.todo) - 1
		do := m.todo[last]
		m.todo = m.todo[:last]
		do()
	}
}

// next has steps done in their order, ahead of all that is still to be done.
func (m *maker) next(steps ...step) {
	for i := len(steps) - 1; i >= 0; i-- {
		m.todo = append(m.todo, steps[i])
	}
}

// meet counts a term's kids: terms that lead back to themselves would else be gone into without end.
func (m *maker) meet(t *api.Term) {
	m.terms += len(t.Kids)
	need(m.terms <= maxTerms)
}

// fresh is a register that nothing has yet.
func (m *maker) fresh() int {
	m.made.Regs++
	return m.made.Regs - 1
}

// emit adds an instruction.
func (m *maker) emit(x api.Instr) {
	if m.here == nowhere {
		return
	}
	need(m.code < api.MaxCode)
	m.code++
	b := &m.made.Blocks[m.here]
	b.Code = append(b.Code, x)
}

// last is the instruction that was added to this block last; nil: it has none.
func (m *maker) last() *api.Instr {
	if m.here == nowhere || len(m.made.Blocks[m.here].Code) == 0 {
		return nil
	}
	code := m.made.Blocks[m.here].Code
	return &code[len(code)-1]
}

// given adds an instruction that gives a new register a value, and tells which.
func (m *maker) given(x api.Instr) int {
	x.Dst = m.fresh()
	m.emit(x)
	return x.Dst
}

func (m *maker) constant(x int) int {
	return m.given(api.Instr{Op: api.OpConst, Imm: int32(x)})
}

func (m *maker) alu(op, a, b int) int {
	return m.given(api.Instr{Op: api.OpAlu, Alu: op, Args: []int{a, b}})
}

func (m *maker) push(register int) { m.values = append(m.values, register) }

func (m *maker) pop() int {
	last := len(m.values) - 1
	register := m.values[last]
	m.drop(last)
	return register
}

// drop leaves the first so many of the values that wait.
func (m *maker) drop(count int) {
	m.values = m.values[:count]
	m.steady = min(m.steady, count)
}

// hold keeps the values that wait in variables' registers, as these may be assigned to ahead of the use.
func (m *maker) hold() {
	for i := m.steady; i < len(m.values); i++ {
		if m.isVariable(m.values[i]) {
			m.values[i] = m.given(api.Instr{Op: api.OpCopy, Args: []int{m.values[i]}})
		}
	}
	m.steady = len(m.values)
}

// set gives a register a value that was waiting.
func (m *maker) set(register, value int) {
	m.hold()
	if x := m.last(); x != nil && x.Dst == value && !m.isVariable(value) {
		// Nobody else uses that register, and all ways here come through this instruction.
		x.Dst = register
		return
	}
	m.emit(api.Instr{Op: api.OpCopy, Dst: register, Args: []int{value}})
}

package lower

import "crucible/api"

// label is a place of the function that control may come to. It has a block once something leads there.
type label struct{ block int }

func newLabel() *label { return &label{nowhere} }

func (m *maker) newBlock() int {
	need(len(m.made.Blocks) < api.MaxBlocks)
	m.made.Blocks = append(m.made.Blocks, api.Block{})
	return len(m.made.Blocks) - 1
}

func (m *maker) blockOf(l *label) int {
	if l.block == nowhere {
		l.block = m.newBlock()
	}
	return l.block
}

// finish ends this block.
func (m *maker) finish(end, arg int, to ...int) {
	if m.here == nowhere {
		return
	}
	b := &m.made.Blocks[m.here]
	b.End, b.Arg, b.To = end, arg, to
	m.here = nowhere
}

func (m *maker) jump(l *label) {
	if m.here != nowhere {
		m.finish(api.EndJump, 0, m.blockOf(l))
	}
}

func (m *maker) branch(register int, yes, no *label) {
	if m.here != nowhere {
		m.finish(api.EndBranch, register, m.blockOf(yes), m.blockOf(no))
	}
}

// place goes on at a label. One that nothing leads to needs no block of its own.
func (m *maker) place(l *label) {
	if l.block == nowhere {
		return
	}
	m.jump(l)
	m.here = l.block
}

// open goes on at a label that something further on leads back to. A block that is empty will do, but the one where the loop around begins: loops that begin together are one.
func (m *maker) open(l *label) {
	if m.last() == nil && m.here != m.head {
		l.block = m.here
	} else {
		m.jump(l)
	}
	m.here, m.head = l.block, l.block
}

func (m *maker) jumped(l *label) step { return func() { m.jump(l) } }

func (m *maker) placed(l *label) step { return func() { m.place(l) } }

func (m *maker) opened(l *label) step { return func() { m.open(l) } }

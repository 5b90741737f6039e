package ssa

import (
	"slices"

	"crucible/api"
	"crucible/ir"
)

// renamer makes a function in which each register is given a value once, of one that has OpPhis wherever values meet.
type renamer struct {
	from  api.Func
	made  api.Func
	preds [][]int
	below [][]int
	now   []int // of each register of from that of made which has its value here; none: it was given none
	// What now was ahead of each change: what a block gives holds in those that it dominates alone.
	was  []change
	zero int // the register of what was given no value, or none
}

type change struct{ register, was int }

// renamed is a function in form, which shares no memory with the one that it is made of.
func renamed(f api.Func) api.Func {
	m := &renamer{from: f, made: f, preds: ir.Preds(f), below: treeOf(f).below(), now: nones(f.Regs), zero: none}
	m.made.Regs = f.Params
	for i := range f.Params {
		m.now[i] = i
	}
	m.made.Blocks = make([]api.Block, len(f.Blocks))
	for i := range m.made.Blocks {
		m.prepare(i)
	}
	m.rename(0)
	if m.zero != none {
		first := &m.made.Blocks[0]
		first.Code = slices.Insert(first.Code, phiCount(*first), api.Instr{Op: api.OpConst, Dst: m.zero})
	}
	return m.made
}

// prepare makes a block with its OpPhis alone: what these have of a predecessor can be known ahead of what they give.
func (m *renamer) prepare(i int) {
	from := m.from.Blocks[i]
	made := api.Block{End: from.End, To: slices.Clone(from.To), Code: make([]api.Instr, 0, len(from.Code))}
	for _, x := range from.Code[:phiCount(from)] {
		x.Args, x.Pred = make([]int, len(x.Args)), slices.Clone(x.Pred)
		made.Code = append(made.Code, x)
	}
	m.made.Blocks[i] = made
}

// rename makes a block, and those that it dominates.
func (m *renamer) rename(i int) {
	mark := len(m.was)
	from, made := m.from.Blocks[i], &m.made.Blocks[i]
	phis := len(made.Code)
	for j, x := range from.Code[:phis] {
		made.Code[j].Dst = m.give(x.Dst)
	}
	for _, x := range from.Code[phis:] {
		// An empty list may have room behind its end, too.
		x.Args, x.Pred = m.values(x.Args), nil
		if x.Dst != none {
			x.Dst = m.give(x.Dst)
		}
		made.Code = append(made.Code, x)
	}
	made.Arg = from.Arg
	if a := asked(from); a != none {
		made.Arg = m.value(a)
	}
	for _, to := range from.To {
		m.tell(i, to)
	}
	for _, b := range m.below[i] {
		m.rename(b)
	}
	m.undo(mark)
}

// tell has the OpPhis of a successor know what comes to them of a block.
func (m *renamer) tell(from, to int) {
	place, _ := slices.BinarySearch(m.preds[to], from)
	code, made := m.from.Blocks[to].Code, m.made.Blocks[to].Code
	for i := range phiCount(m.from.Blocks[to]) {
		made[i].Args[place] = m.value(code[i].Args[place])
	}
}

// give is a new register for a value that one of from is given.
func (m *renamer) give(r int) int {
	m.was = append(m.was, change{r, m.now[r]})
	m.now[r] = m.fresh()
	return m.now[r]
}

func (m *renamer) undo(mark int) {
	for len(m.was) > mark {
		c := m.was[len(m.was)-1]
		m.was = m.was[:len(m.was)-1]
		m.now[c.register] = c.was
	}
}

func (m *renamer) fresh() int {
	m.made.Regs++
	return m.made.Regs - 1
}

// value is the register that has what one of from has here. All registers begin as 0.
func (m *renamer) value(r int) int {
	if m.now[r] != none {
		return m.now[r]
	}
	if m.zero == none {
		m.zero = m.fresh()
	}
	return m.zero
}

func (m *renamer) values(l []int) []int {
	if len(l) == 0 {
		return nil
	}
	n := make([]int, len(l))
	for i, r := range l {
		n[i] = m.value(r)
	}
	return n
}

package ssa

import "crucible/api"

// point is a place in a function: at an instruction of a block, or, behind the last one, at its end.
type point struct{ block, next int }

// uses looks whether each use in a function stands behind the definition.
type uses struct {
	function api.Func
	tree     tree
	defined  []point // of each register; its block is none, if it is given no value
}

// definitions tells where each register is given its value; false: one is given values at two places.
func definitions(f api.Func) ([]point, bool) {
	l := make([]point, f.Regs)
	for i := range l {
		l[i] = point{none, none}
		if i < f.Params {
			l[i].block = 0 // ahead of all that block 0 has
		}
	}
	for i, b := range f.Blocks {
		for j, x := range b.Code {
			if x.Dst == none {
				continue
			}
			if l[x.Dst].block != none {
				return nil, false
			}
			l[x.Dst] = point{i, j}
		}
	}
	return l, true
}

// stand tells whether all uses stand behind the definitions.
func (u *uses) stand() bool {
	for i, b := range u.function.Blocks {
		for j, x := range b.Code {
			if !u.instructionStands(x, point{i, j}) {
				return false
			}
		}
		if a := asked(b); a != none && !u.isBehind(u.endOf(i), a) {
			return false
		}
	}
	return true
}

func (u *uses) instructionStands(x api.Instr, at point) bool {
	for i, a := range x.Args {
		if x.Op == api.OpPhi {
			at = u.endOf(x.Pred[i])
		}
		if !u.isBehind(at, a) {
			return false
		}
	}
	return true
}

func (u *uses) endOf(block int) point { return point{block, len(u.function.Blocks[block].Code)} }

// isBehind tells whether a place is behind the definition of a register on all ways.
func (u *uses) isBehind(at point, register int) bool {
	from := u.defined[register]
	switch from.block {
	case none:
		return false
	case at.block:
		return from.next < at.next
	}
	return u.tree.dominates(from.block, at.block)
}

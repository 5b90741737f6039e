package ssa

import (
	"slices"

	"crucible/api"
	"crucible/ir"
	"crucible/order"
)

// placer finds the blocks where several values of a register meet, one register behind the other.
//
// A register that is not needed there any more gets no OpPhi: without this the form could be far more than may be.
type placer struct {
	preds     [][]int
	frontiers [][]int
	defs      [][]int // of each register the blocks that give it a value
	uses      [][]int // of each register the blocks that use what it has at their beginning
	ends      [][]int // of each register the blocks at whose end an OpPhi uses it
	// Of each block the last register of which it is so: so nothing is to be cleared for the next one.
	given  []int // the block gives it a value
	live   []int // it is live at the block's beginning
	placed []int // it gets an OpPhi there
	phis   [][]int
	left   int // how many more instructions there may be
}

// withPhis is a function that does the same, with an OpPhi of a register by itself where several of its values meet;
// false: they are more than may be. It may share memory with the one that it is told of.
func withPhis(f api.Func) (api.Func, bool) {
	p := newPlacer(f)
	for r := range f.Regs {
		if !p.place(r) {
			return api.Func{}, false
		}
	}
	f.Blocks = slices.Clone(f.Blocks)
	for i, registers := range p.phis {
		b := &f.Blocks[i]
		code := make([]api.Instr, 0, len(registers)+len(b.Code))
		for _, r := range registers {
			args := slices.Repeat([]int{r}, len(p.preds[i]))
			code = append(code, api.Instr{Op: api.OpPhi, Dst: r, Args: args, Pred: p.preds[i]})
		}
		b.Code = append(code, b.Code...)
	}
	return f, true
}

func newPlacer(f api.Func) *placer {
	n := len(f.Blocks)
	p := &placer{
		preds:     ir.Preds(f),
		frontiers: order.Frontiers(f),
		defs:      make([][]int, f.Regs),
		uses:      make([][]int, f.Regs),
		ends:      make([][]int, f.Regs),
		given:     nones(n),
		live:      nones(n),
		placed:    nones(n),
		phis:      make([][]int, n),
		left:      api.MaxCode - codeSize(f),
	}
	given := nones(f.Regs)
	for i, b := range f.Blocks {
		p.gather(i, b, given)
	}
	return p
}

// gather notes what a block does; given tells of each register the last block that gives it a value.
func (p *placer) gather(i int, b api.Block, given []int) {
	for _, x := range b.Code {
		for j, a := range x.Args {
			if x.Op == api.OpPhi {
				p.ends[a] = append(p.ends[a], x.Pred[j])
			} else if given[a] != i {
				p.uses[a] = append(p.uses[a], i)
			}
		}
		if x.Dst != none && given[x.Dst] != i {
			given[x.Dst] = i
			p.defs[x.Dst] = append(p.defs[x.Dst], i)
		}
	}
	if a := asked(b); a != none && given[a] != i {
		p.uses[a] = append(p.uses[a], i)
	}
}

// place finds where a register gets OpPhis; false: no room is left.
func (p *placer) place(r int) bool {
	if !p.meets(r) {
		return true
	}
	p.spread(r)
	waiting := slices.Clone(p.defs[r])
	for len(waiting) > 0 {
		from := waiting[len(waiting)-1]
		waiting = waiting[:len(waiting)-1]
		for _, to := range p.frontiers[from] {
			if p.live[to] != r || p.placed[to] == r {
				continue
			}
			if p.left == 0 {
				return false
			}
			p.left--
			p.placed[to] = r
			p.phis[to] = append(p.phis[to], r)
			if p.given[to] != r {
				waiting = append(waiting, to)
			}
		}
	}
	return true
}

// meets tells whether a value of a register could meet another one: most are used where one alone comes to.
func (p *placer) meets(r int) bool {
	return slices.ContainsFunc(p.defs[r], func(b int) bool { return len(p.frontiers[b]) > 0 })
}

// spread finds the blocks at whose beginning a register is live.
func (p *placer) spread(r int) {
	for _, b := range p.defs[r] {
		p.given[b] = r
	}
	var waiting []int
	come := func(b int) {
		if p.live[b] != r {
			p.live[b] = r
			waiting = append(waiting, b)
		}
	}
	comeThrough := func(b int) {
		if p.given[b] != r {
			come(b)
		}
	}
	for _, b := range p.uses[r] {
		come(b)
	}
	for _, b := range p.ends[r] {
		comeThrough(b)
	}
	for len(waiting) > 0 {
		b := waiting[len(waiting)-1]
		waiting = waiting[:len(waiting)-1]
		for _, from := range p.preds[b] {
			comeThrough(from)
		}
	}
}

package live

import (
	"math"
	"slices"

	"crucible/api"
	"crucible/lattice"
)

// width is how many registers are looked at in one go. A set of all registers of a great function would be long, and
// be copied whole for each one of them that is live a block farther on.
const width = 1024

// band is a function to one who looks at some of its registers alone: low and those behind it. In its sets they are
// numbered from low on.
type band struct {
	function api.Func
	low      int
	blocks   []summary
	end      []lattice.Set // of each block, what is live at its end
}

// summary is what a block does with registers.
type summary struct {
	uses    lattice.Set // by instructions but OpPhis, ahead of each definition by these
	defines lattice.Set // by instructions but OpPhis
	phis    lattice.Set // defined by OpPhis
	ends    lattice.Set // used at its end, by OpPhis of its successors too
}

// bandsOf is a function's bands, which have all its registers.
func bandsOf(f api.Func) []*band {
	var bands []*band
	edges := backward(f)
	for low := 0; low < f.Regs; low += width {
		b := &band{function: f, low: low}
		b.summarize()
		b.solve(edges)
		bands = append(bands, b)
	}
	return bands
}

// backward is an edge from each successor of a block to the block.
func backward(f api.Func) [][2]int {
	var edges [][2]int
	for i, b := range f.Blocks {
		for _, to := range b.To {
			edges = append(edges, [2]int{to, i})
		}
	}
	return edges
}

func (b *band) summarize() {
	no := lattice.NewSet()
	b.blocks = slices.Repeat([]summary{{no, no, no, no}}, len(b.function.Blocks))
	for i, block := range b.function.Blocks {
		s := &b.blocks[i]
		if block.End != api.EndJump {
			s.ends = b.with(s.ends, block.Arg)
		}
		for _, x := range slices.Backward(block.Code) {
			if x.Op == api.OpPhi {
				s.phis = b.with(s.phis, x.Dst)
				b.useAtEnds(x)
				continue
			}
			s.uses = b.ahead(x, s.uses)
			s.defines = b.with(s.defines, x.Dst)
		}
	}
}

func (b *band) useAtEnds(phi api.Instr) {
	for i, from := range phi.Pred {
		s := &b.blocks[from]
		s.ends = b.with(s.ends, phi.Args[i])
	}
}

// ahead is what is live ahead of an instruction that is no OpPhi, of what is live behind it.
func (b *band) ahead(x api.Instr, live lattice.Set) lattice.Set {
	return b.with(b.without(live, x.Dst), x.Args...)
}

// solve finds what is live at the blocks' ends: values go from successors to their predecessors.
func (b *band) solve(edges [][2]int) {
	// Sets of registers rise no higher than a lattice may, and there is no end to the calls that are let: it can't fail.
	b.end, _, _ = lattice.Solve(lattice.Problem[lattice.Set]{
		Nodes:  len(b.blocks),
		Edges:  edges,
		Bottom: lattice.NewSet(),
		Start:  func(block int) lattice.Set { return b.blocks[block].ends },
		Join:   lattice.Set.Union,
		Equal:  lattice.Set.Equal,
		Flow: func(block int, end lattice.Set) lattice.Set {
			s := &b.blocks[block]
			return s.begin(end).Minus(s.phis)
		},
	}, math.MaxInt)
}

// begin is what is live behind a block's OpPhis, of what is live at its end.
func (s *summary) begin(end lattice.Set) lattice.Set { return end.Minus(s.defines).Union(s.uses) }

// begin is what is live at a block's beginning.
func (b *band) begin(block int) lattice.Set { return b.blocks[block].begin(b.end[block]) }

func (b *band) has(register int) bool { return register >= b.low && register < b.low+width }

// with is a set with those of some registers that the band has.
func (b *band) with(s lattice.Set, registers ...int) lattice.Set {
	for _, r := range registers {
		if b.has(r) {
			s = s.With(r - b.low)
		}
	}
	return s
}

func (b *band) without(s lattice.Set, register int) lattice.Set {
	if !b.has(register) {
		return s
	}
	return s.Without(register - b.low)
}

// listed is a list with a set's registers behind it.
func (b *band) listed(l []int, s lattice.Set) []int {
	l = slices.Grow(l, s.Len())
	for n := range s.All() {
		l = append(l, b.low+n)
	}
	return l
}

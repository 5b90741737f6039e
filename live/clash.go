package live

import (
	"slices"

	"crucible/api"
	"crucible/ir"
	"crucible/lattice"
)

// none is the Dst of an instruction that gives no register a value.
const none = -1

// clashes is of each register those that it clashes with: those that it meets, and those that meet it.
func clashes(f api.Func, bands []*band) [][]int {
	reached := ir.Reached(f)
	met := make([][]lattice.Set, len(bands))
	for i, b := range bands {
		met[i] = b.met(reached)
	}
	l := make([][]int, f.Regs)
	columns := make([][]int, width)
	var others []int
	for i, b := range bands {
		turn(met[i], columns)
		for r := b.low; r < min(b.low+width, f.Regs); r++ {
			others = append(others[:0], columns[r-b.low]...)
			for j, c := range bands {
				others = c.listed(others, met[j][r])
			}
			s := lattice.NewSet(others...).Without(r)
			l[r] = slices.AppendSeq(make([]int, 0, s.Len()), s.All())
		}
	}
	return l
}

// met is of each of the function's registers those of the band that it meets: they are live where it is defined. It may
// be one itself.
func (b *band) met(reached []bool) []lattice.Set {
	met := slices.Repeat([]lattice.Set{lattice.NewSet()}, b.function.Regs)
	define := func(register int, live lattice.Set) {
		if live.Len() > 0 {
			met[register] = met[register].Union(live)
		}
	}
	begin := b.begin(0)
	for r := range b.function.Params {
		define(r, begin)
	}
	for i, block := range b.function.Blocks {
		if reached[i] {
			b.walk(block, b.end[i], define)
		}
	}
	return met
}

// walk tells of each definition in a block what it meets there; live is what is live at the block's end.
func (b *band) walk(block api.Block, live lattice.Set, define func(register int, live lattice.Set)) {
	for _, x := range slices.Backward(block.Code) {
		switch x.Op {
		case api.OpPhi:
			// All are done at once: behind each one is what is live behind all.
			define(x.Dst, live)
			continue
		case api.OpCopy:
			define(x.Dst, b.without(live, x.Args[0]))
		default:
			if x.Dst != none {
				define(x.Dst, live)
			}
		}
		live = b.ahead(x, live)
	}
}

// turn makes columns the lists of the rows that have each number.
func turn(rows []lattice.Set, columns [][]int) {
	for n := range columns {
		columns[n] = columns[n][:0]
	}
	for r, s := range rows {
		for n := range s.All() {
			columns[n] = append(columns[n], r)
		}
	}
}

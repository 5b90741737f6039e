package ssa

import (
	"slices"

	"crucible/api"
	"crucible/ir"
)

// onlyReached is a function without its blocks that are not reached. It may share memory with the one that it is told of.
func onlyReached(f api.Func) api.Func {
	reached := ir.Reached(f)
	if !slices.Contains(reached, false) {
		return f
	}
	number := nones(len(f.Blocks))
	var blocks []api.Block
	for i, b := range f.Blocks {
		if reached[i] {
			number[i] = len(blocks)
			blocks = append(blocks, b)
		}
	}
	for i := range blocks {
		blocks[i] = renumbered(blocks[i], number)
	}
	f.Blocks = blocks
	return f
}

// renumbered is a block with other numbers for blocks; those that have none are gone.
func renumbered(b api.Block, number []int) api.Block {
	b.To = slices.Clone(b.To)
	for i, to := range b.To {
		b.To[i] = number[to]
	}
	b.Code = slices.Clone(b.Code)
	for i := range phiCount(b) {
		b.Code[i] = renumberedPhi(b.Code[i], number)
	}
	return b
}

func renumberedPhi(x api.Instr, number []int) api.Instr {
	var args, preds []int
	for i, from := range x.Pred {
		if number[from] != none {
			args = append(args, x.Args[i])
			preds = append(preds, number[from])
		}
	}
	x.Args, x.Pred = args, preds
	return x
}

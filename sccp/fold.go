package sccp

import (
	"slices"

	"crucible/api"
)

// folded is the function that a walker went through, with what is known of it in the place of what reckons it.
func folded(w *walker) api.Func {
	f := w.function
	number, n := numbers(w.gone)
	f.Blocks = make([]api.Block, 0, n)
	for i, b := range w.function.Blocks {
		if w.gone[i] {
			f.Blocks = append(f.Blocks, w.foldedBlock(b, w.came[i], number))
		}
	}
	return f
}

// numbers is what those that stay are numbered from 0 on, and how many they are.
func numbers(stays []bool) ([]int, int) {
	l, n := make([]int, len(stays)), 0
	for i, yes := range stays {
		if yes {
			l[i] = n
			n++
		}
	}
	return l, n
}

func (w *walker) foldedBlock(b api.Block, came []bool, number []int) api.Block {
	folded := api.Block{Code: w.foldedCode(b.Code, came, number), End: b.End, Arg: b.Arg}
	ways := w.ways(b)
	if len(ways) < len(b.To) {
		folded.End, folded.Arg = api.EndJump, 0
	}
	for _, to := range ways {
		folded.To = append(folded.To, number[to])
	}
	return folded
}

// foldedCode has the OpPhis that stay ahead of what the others became, as OpPhis must stand.
func (w *walker) foldedCode(code []api.Instr, came []bool, number []int) []api.Instr {
	phis, others := make([]api.Instr, 0, len(code)), make([]api.Instr, 0, len(code))
	for _, x := range code {
		switch {
		case x.Dst != none && w.known[x.Dst].Kind == api.KnownOne:
			others = append(others, api.Instr{Op: api.OpConst, Dst: x.Dst, Imm: w.known[x.Dst].Value})
		case x.Op == api.OpPhi:
			phis = append(phis, foldedPhi(x, came, number))
		default:
			// Pred has none, but may have room behind that.
			x.Args, x.Pred = slices.Clone(x.Args), nil
			others = append(others, x)
		}
	}
	return append(phis, others...)
}

// foldedPhi has the arguments that come by edges that are gone.
func foldedPhi(x api.Instr, came []bool, number []int) api.Instr {
	var args, preds []int
	for i, yes := range came {
		if yes {
			args = append(args, x.Args[i])
			preds = append(preds, number[x.Pred[i]])
		}
	}
	x.Args, x.Pred = args, preds
	return x
}

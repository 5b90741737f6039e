package ssa

import (
	"slices"

	"crucible/api"
	"crucible/ir"
)

// gatherer makes a function in which one block alone has several predecessors: the hub.
//
// Where ways meet in many blocks, and many registers are given values between, an OpPhi of each register in each block
// would be more than may be, however small the function is. When all ways that meet go by the hub, one OpPhi of each
// register there is enough.
type gatherer struct {
	made   api.Func
	meets  []int // the blocks where ways meet, rising
	number []int // of each block its place in meets, or none
	hub    int
	ways   []api.Edge // those that go by the hub now, each by a block of its own behind it
	next   int        // the register that has the number of the block to which one goes from the hub
	limit  int        // registers of the tests by which it is found
	less   int
}

// gathered is a function that does the same, of one all of whose blocks are reached, and in which ways meet.
func gathered(f api.Func) api.Func {
	g := &gatherer{made: ir.Copy(f), number: nones(len(f.Blocks)), hub: len(f.Blocks)}
	g.next, g.limit, g.less = g.fresh(), g.fresh(), g.fresh()
	for b, preds := range ir.Preds(f) {
		if len(preds) > 1 {
			g.number[b] = len(g.meets)
			g.meets = append(g.meets, b)
		}
	}
	g.add(api.Block{})
	for from, b := range f.Blocks {
		for i, to := range b.To {
			if g.number[to] != none {
				g.made.Blocks[from].To[i] = g.way(from, to)
			}
		}
	}
	code := g.lifted()
	g.made.Blocks[g.hub] = api.Block{Code: code, End: api.EndJump, To: []int{g.choose(0, len(g.meets))}}
	return g.made
}

func (g *gatherer) fresh() int {
	g.made.Regs++
	return g.made.Regs - 1
}

func (g *gatherer) add(b api.Block) int {
	g.made.Blocks = append(g.made.Blocks, b)
	return len(g.made.Blocks) - 1
}

// way is the block by which one goes to the hub, where one went to a block straight on.
func (g *gatherer) way(from, to int) int {
	edge := api.Edge{From: from, To: to}
	if i := slices.Index(g.ways, edge); i != none {
		return g.hub + 1 + i
	}
	g.ways = append(g.ways, edge)
	number := api.Instr{Op: api.OpConst, Dst: g.next, Imm: int32(g.number[to])}
	return g.add(api.Block{Code: []api.Instr{number}, End: api.EndJump, To: []int{g.hub}})
}

// lifted is the OpPhis of all blocks where ways met, for the hub: the blocks have copies in their place.
func (g *gatherer) lifted() []api.Instr {
	var preds []int
	for i := range g.ways {
		preds = append(preds, g.hub+1+i)
	}
	var code []api.Instr
	for _, b := range g.meets {
		block := &g.made.Blocks[b]
		for i := range phiCount(*block) {
			x := block.Code[i]
			lifted := api.Instr{Op: api.OpPhi, Dst: g.fresh(), Args: g.argsOf(x, b), Pred: preds}
			code = append(code, lifted)
			block.Code[i] = api.Instr{Op: api.OpCopy, Dst: x.Dst, Args: []int{lifted.Dst}}
		}
	}
	return code
}

// argsOf is what an OpPhi of a block has of each way by the hub. What it has of those to other blocks is not looked at.
func (g *gatherer) argsOf(x api.Instr, block int) []int {
	args := slices.Repeat([]int{g.next}, len(g.ways))
	for i, w := range g.ways {
		if w.To == block {
			place, _ := slices.BinarySearch(x.Pred, w.From)
			args[i] = x.Args[place]
		}
	}
	return args
}

// choose is a block that leads on to that of meets, from low to below high, whose number next has.
func (g *gatherer) choose(low, high int) int {
	if high-low == 1 {
		return g.meets[low]
	}
	middle := (low + high) / 2
	return g.add(api.Block{
		Code: []api.Instr{
			{Op: api.OpConst, Dst: g.limit, Imm: int32(middle)},
			{Op: api.OpAlu, Dst: g.less, Alu: api.AluLt, Args: []int{g.next, g.limit}},
		},
		End: api.EndBranch,
		Arg: g.less,
		To:  []int{g.choose(low, middle), g.choose(middle, high)},
	})
}

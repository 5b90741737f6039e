package ir

import "crucible/api"

func constant(dst int, imm int32) api.Instr { return api.Instr{Op: api.OpConst, Dst: dst, Imm: imm} }

func copied(dst, from int) api.Instr {
	return api.Instr{Op: api.OpCopy, Dst: dst, Args: []int{from}}
}

func reckoned(dst, alu, a, b int) api.Instr {
	return api.Instr{Op: api.OpAlu, Dst: dst, Alu: alu, Args: []int{a, b}}
}

func global(dst int, imm int32) api.Instr { return api.Instr{Op: api.OpGlobal, Dst: dst, Imm: imm} }

func slot(dst int, imm int32) api.Instr { return api.Instr{Op: api.OpSlot, Dst: dst, Imm: imm} }

func load(dst, from int, imm int32, wide int) api.Instr {
	return api.Instr{Op: api.OpLoad, Dst: dst, Args: []int{from}, Imm: imm, Wide: wide}
}

func store(at, value int, imm int32, wide int) api.Instr {
	return api.Instr{Op: api.OpStore, Dst: -1, Args: []int{at, value}, Imm: imm, Wide: wide}
}

func checked(arg int, trap int32) api.Instr {
	return api.Instr{Op: api.OpCheck, Dst: -1, Args: []int{arg}, Imm: trap}
}

func call(dst int, function int32, args ...int) api.Instr {
	return api.Instr{Op: api.OpCall, Dst: dst, Imm: function, Args: args}
}

func got(dst int) api.Instr { return api.Instr{Op: api.OpGet, Dst: dst} }

func put(arg int) api.Instr { return api.Instr{Op: api.OpPut, Dst: -1, Args: []int{arg}} }

func phi(dst int, pred, args []int) api.Instr {
	return api.Instr{Op: api.OpPhi, Dst: dst, Args: args, Pred: pred}
}

func jump(to int, code ...api.Instr) api.Block {
	return api.Block{Code: code, End: api.EndJump, To: []int{to}}
}

func branch(arg, yes, no int, code ...api.Instr) api.Block {
	return api.Block{Code: code, End: api.EndBranch, Arg: arg, To: []int{yes, no}}
}

func give(arg int, code ...api.Instr) api.Block {
	return api.Block{Code: code, End: api.EndReturn, Arg: arg}
}

func function(regs int, blocks ...api.Block) api.Func {
	return api.Func{Name: "f", Regs: regs, Blocks: blocks}
}

// programOf has f as its second function; its first one is main, its third has the most Params that may be.
func programOf(f api.Func) api.Program {
	most := api.Func{Name: "most", Params: api.MaxArgs, Regs: api.MaxArgs, Blocks: []api.Block{give(-1)}}
	return api.Program{Funcs: []api.Func{function(0, give(-1)), f, most}, Global: 100}
}

// everything has each Op at least once, each End, a loop, a block that is not reached, and one whose To are one.
func everything() api.Func {
	return api.Func{Name: "everything", Params: 2, Regs: 9, Slots: 8, Blocks: []api.Block{
		jump(1, constant(2, -5), copied(3, 0), global(4, 100), slot(5, 8)),
		branch(6, 2, 4,
			phi(6, []int{0, 3, 5}, []int{0, 7, 8}), phi(7, []int{0, 3, 5}, []int{1, 1, 1}),
			reckoned(8, api.AluDiv, 6, 7), reckoned(8, api.AluLeU, 0, 0)),
		branch(8, 3, 3,
			load(3, 4, -1, 1), load(3, 4, 1<<31-1, 4), store(5, 3, 0, 4), store(5, 3, -1<<31, 1),
			checked(3, api.TrapDivide), checked(3, api.TrapBounds)),
		jump(1, phi(2, []int{2}, []int{3}), call(-1, 0), call(2, 1, 0, 1),
			call(3, 2, 0, 1, 2, 3, 4, 5, 6, 7, 8, 0, 1, 2)),
		give(-1, got(2), put(2)),
		jump(1, phi(0, nil, nil)),
		give(8),
	}}
}

// counting is 0 to 1, 1 to 2 or 3, 2 to 1.
func counting() api.Func {
	return function(5,
		jump(1, constant(0, 0), constant(1, 0), constant(2, 1), constant(3, 5)),
		branch(4, 2, 3, reckoned(4, api.AluLt, 0, 3)),
		jump(1, reckoned(0, api.AluAdd, 0, 2), put(0)),
		give(1))
}

// graph is a function of blocks with these To, which ask and tell nothing.
func graph(to ...[]int) api.Func {
	f := api.Func{Name: "graph", Regs: 1}
	for _, l := range to {
		b := api.Block{To: l}
		switch len(l) {
		case 0:
			b.End = api.EndReturn
		case 1:
			b.End = api.EndJump
		case 2:
			b.End = api.EndBranch
		}
		f.Blocks = append(f.Blocks, b)
	}
	return f
}

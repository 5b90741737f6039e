package irrun

import (
	"testing"

	"crucible/api"
)

const plenty = 100000 // of fuel

func constant(dst int, imm int32) api.Instr { return api.Instr{Op: api.OpConst, Dst: dst, Imm: imm} }

func copied(dst, from int) api.Instr {
	return api.Instr{Op: api.OpCopy, Dst: dst, Args: []int{from}}
}

func reckoned(dst, alu, a, b int) api.Instr {
	return api.Instr{Op: api.OpAlu, Dst: dst, Alu: alu, Args: []int{a, b}}
}

func global(dst int, imm int32) api.Instr { return api.Instr{Op: api.OpGlobal, Dst: dst, Imm: imm} }

func slot(dst int, imm int32) api.Instr { return api.Instr{Op: api.OpSlot, Dst: dst, Imm: imm} }

func load(dst, from int, imm int32, wide int) api.Instr {
	return api.Instr{Op: api.OpLoad, Dst: dst, Args: []int{from}, Imm: imm, Wide: wide}
}

func store(at, value int, imm int32, wide int) api.Instr {
	return api.Instr{Op: api.OpStore, Dst: -1, Args: []int{at, value}, Imm: imm, Wide: wide}
}

func checked(arg int, trap int32) api.Instr {
	return api.Instr{Op: api.OpCheck, Dst: -1, Args: []int{arg}, Imm: trap}
}

func called(dst int, function int32, args ...int) api.Instr {
	return api.Instr{Op: api.OpCall, Dst: dst, Imm: function, Args: args}
}

func got(dst int) api.Instr { return api.Instr{Op: api.OpGet, Dst: dst} }

func put(arg int) api.Instr { return api.Instr{Op: api.OpPut, Dst: -1, Args: []int{arg}} }

func phi(dst int, pred, args []int) api.Instr {
	return api.Instr{Op: api.OpPhi, Dst: dst, Args: args, Pred: pred}
}

func jump(to int, code ...api.Instr) api.Block {
	return api.Block{Code: code, End: api.EndJump, To: []int{to}}
}

func branch(arg, yes, no int, code ...api.Instr) api.Block {
	return api.Block{Code: code, End: api.EndBranch, Arg: arg, To: []int{yes, no}}
}

func give(arg int, code ...api.Instr) api.Block {
	return api.Block{Code: code, End: api.EndReturn, Arg: arg}
}

func function(params, regs, slots int, blocks ...api.Block) api.Func {
	return api.Func{Name: "f", Params: params, Regs: regs, Slots: slots, Blocks: blocks}
}

// programOf has main as its first function.
func programOf(global int, funcs ...api.Func) api.Program {
	return api.Program{Funcs: funcs, Global: global}
}

// straight is a program whose main is one block over 8 registers, which tells register 0.
func straight(code ...api.Instr) api.Program {
	return programOf(16, function(0, 8, 16, give(0, code...)))
}

func exit(code int32) api.End { return api.End{Kind: api.EndExit, Code: code} }

func trapped(trap int) api.End { return api.End{Kind: api.EndTrap, Trap: trap} }

func expect(t *testing.T, name string, p api.Program, want api.End) {
	t.Helper()
	if e := Run(p, "", plenty, 10); e != want {
		t.Errorf("%s: %+v, not %+v", name, e, want)
	}
}

// expectSteps holds a run to its end, and to how many steps it takes up to there.
func expectSteps(t *testing.T, name string, p api.Program, input string, deep, steps int, want api.End) {
	t.Helper()
	if e := Run(p, input, steps, deep); e != want {
		t.Errorf("%s: with fuel %d: %+v, not %+v", name, steps, e, want)
	}
	if e := Run(p, input, steps-1, deep); e.Kind != api.EndFuel || e.Code != 0 || e.Trap != 0 {
		t.Errorf("%s: with fuel %d: %+v", name, steps-1, e)
	}
}

// counting puts 1, 3, 6, 10, 15, and tells the last.
func counting() api.Program {
	return programOf(0, function(0, 5, 0,
		jump(1, constant(0, 0), constant(1, 0), constant(2, 1), constant(3, 5)),
		branch(4, 2, 3, reckoned(4, api.AluLt, 0, 3)),
		jump(1, reckoned(0, api.AluAdd, 0, 2), reckoned(1, api.AluAdd, 1, 0), put(1)),
		give(1)))
}

// echo puts each byte of the input, and tells what it got behind the last one.
func echo() api.Program {
	return programOf(0, function(0, 3, 0,
		jump(1, constant(1, -1)),
		branch(2, 2, 3, got(0), reckoned(2, api.AluNe, 0, 1)),
		jump(1, put(0)),
		give(0)))
}

// factorial tells n!, by calls of a function of its own registers.
func factorial(n int32) api.Program {
	return programOf(0,
		function(0, 2, 0, give(1, constant(0, n), called(1, 1, 0))),
		function(1, 4, 0,
			branch(0, 1, 2, constant(1, 1)),
			give(3, reckoned(2, api.AluSub, 0, 1), called(3, 1, 2), reckoned(3, api.AluMul, 3, 0)),
			give(1)))
}

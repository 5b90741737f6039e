// Package brick makes programs of the inner language for the tests of the layers: written short, or by chance.
package brick

import "crucible/api"

// None is the Dst of an instruction that gives no register a value, and the Arg of an end that tells nothing.
const None = -1

func Constant(dst int, imm int32) api.Instr { return api.Instr{Op: api.OpConst, Dst: dst, Imm: imm} }

func Copied(dst, from int) api.Instr {
	return api.Instr{Op: api.OpCopy, Dst: dst, Args: []int{from}}
}

func Reckoned(dst, alu, a, b int) api.Instr {
	return api.Instr{Op: api.OpAlu, Dst: dst, Alu: alu, Args: []int{a, b}}
}

func GlobalAt(dst int, imm int32) api.Instr { return api.Instr{Op: api.OpGlobal, Dst: dst, Imm: imm} }

func SlotAt(dst int, imm int32) api.Instr { return api.Instr{Op: api.OpSlot, Dst: dst, Imm: imm} }

func Loaded(dst, at, wide int) api.Instr {
	return api.Instr{Op: api.OpLoad, Dst: dst, Args: []int{at}, Wide: wide}
}

func Stored(at, value, wide int) api.Instr {
	return api.Instr{Op: api.OpStore, Dst: None, Args: []int{at, value}, Wide: wide}
}

func Checked(arg int, trap int32) api.Instr {
	return api.Instr{Op: api.OpCheck, Dst: None, Args: []int{arg}, Imm: trap}
}

func Called(dst int, function int32, args ...int) api.Instr {
	return api.Instr{Op: api.OpCall, Dst: dst, Imm: function, Args: args}
}

func Got(dst int) api.Instr { return api.Instr{Op: api.OpGet, Dst: dst} }

func Put(arg int) api.Instr { return api.Instr{Op: api.OpPut, Dst: None, Args: []int{arg}} }

func Phi(dst int, pred, args []int) api.Instr {
	return api.Instr{Op: api.OpPhi, Dst: dst, Args: args, Pred: pred}
}

func Jump(to int, code ...api.Instr) api.Block {
	return api.Block{Code: code, End: api.EndJump, To: []int{to}}
}

func Branch(arg, yes, no int, code ...api.Instr) api.Block {
	return api.Block{Code: code, End: api.EndBranch, Arg: arg, To: []int{yes, no}}
}

func Give(arg int, code ...api.Instr) api.Block {
	return api.Block{Code: code, End: api.EndReturn, Arg: arg}
}

func Function(params, regs int, blocks ...api.Block) api.Func {
	return api.Func{Name: "f", Params: params, Regs: regs, Blocks: blocks}
}

// ProgramOf has main as its first function.
func ProgramOf(funcs ...api.Func) api.Program { return api.Program{Funcs: funcs} }

// With is a program with another function in the place of one.
func With(p api.Program, which int, f api.Func) api.Program {
	funcs := make([]api.Func, len(p.Funcs))
	copy(funcs, p.Funcs)
	funcs[which] = f
	p.Funcs = funcs
	return p
}

// CodeSize is how many instructions a function has.
func CodeSize(f api.Func) int {
	n := 0
	for _, b := range f.Blocks {
		n += len(b.Code)
	}
	return n
}

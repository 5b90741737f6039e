package live

import (
	"math/rand"
	"slices"
	"testing"

	"crucible/api"
	"crucible/ir"
)

func constant(dst int, imm int32) api.Instr { return api.Instr{Op: api.OpConst, Dst: dst, Imm: imm} }

func copied(dst, from int) api.Instr {
	return api.Instr{Op: api.OpCopy, Dst: dst, Args: []int{from}}
}

func reckoned(dst, alu, a, b int) api.Instr {
	return api.Instr{Op: api.OpAlu, Dst: dst, Alu: alu, Args: []int{a, b}}
}

func load(dst, at int) api.Instr {
	return api.Instr{Op: api.OpLoad, Dst: dst, Args: []int{at}, Wide: 4}
}

func store(at, value int) api.Instr {
	return api.Instr{Op: api.OpStore, Dst: none, Args: []int{at, value}, Wide: 1}
}

func checked(arg int) api.Instr {
	return api.Instr{Op: api.OpCheck, Dst: none, Args: []int{arg}, Imm: api.TrapBounds}
}

func called(dst int, function int32, args ...int) api.Instr {
	return api.Instr{Op: api.OpCall, Dst: dst, Imm: function, Args: args}
}

func got(dst int) api.Instr { return api.Instr{Op: api.OpGet, Dst: dst} }

func put(arg int) api.Instr { return api.Instr{Op: api.OpPut, Dst: none, Args: []int{arg}} }

func phi(dst int, pred, args []int) api.Instr {
	return api.Instr{Op: api.OpPhi, Dst: dst, Args: args, Pred: pred}
}

func jump(to int, code ...api.Instr) api.Block {
	return api.Block{Code: code, End: api.EndJump, To: []int{to}}
}

func branch(arg, yes, no int, code ...api.Instr) api.Block {
	return api.Block{Code: code, End: api.EndBranch, Arg: arg, To: []int{yes, no}}
}

func give(arg int, code ...api.Instr) api.Block {
	return api.Block{Code: code, End: api.EndReturn, Arg: arg}
}

func function(params, regs int, blocks ...api.Block) api.Func {
	return api.Func{Name: "f", Params: params, Regs: regs, Blocks: blocks}
}

// programOf has main as its first function.
func programOf(funcs ...api.Func) api.Program { return api.Program{Funcs: funcs} }

// liveOf is what Live tells of a function that may be.
func liveOf(t *testing.T, p api.Program, f api.Func) (in, out [][]int) {
	t.Helper()
	in, out, e := Live(p, f)
	if e != api.OK || len(in) != len(f.Blocks) || len(out) != len(f.Blocks) {
		t.Fatalf("Live: error %d, %d and %d lists of %d blocks", e, len(in), len(out), len(f.Blocks))
	}
	return in, out
}

// clashOf is what Clash tells of a function that may be.
func clashOf(t *testing.T, p api.Program, f api.Func) [][]int {
	t.Helper()
	l, e := Clash(p, f)
	if e != api.OK || len(l) != f.Regs {
		t.Fatalf("Clash: error %d, %d lists of %d registers", e, len(l), f.Regs)
	}
	return l
}

func sameLists(a, b [][]int) bool { return slices.EqualFunc(a, b, slices.Equal) }

// renamed is a function with other registers in the place of its own. (Of Regs nothing is changed.)
func renamed(f api.Func, name func(register int) int) api.Func {
	f = ir.Copy(f)
	for i := range f.Blocks {
		b := &f.Blocks[i]
		for j := range b.Code {
			x := &b.Code[j]
			if x.Dst != none {
				x.Dst = name(x.Dst)
			}
			for k, a := range x.Args {
				x.Args[k] = name(a)
			}
		}
		if b.End != api.EndJump && b.Arg != none {
			b.Arg = name(b.Arg)
		}
	}
	return f
}

// upTo is low to high.
func upTo(low, high int) []int {
	var l []int
	for i := low; i <= high; i++ {
		l = append(l, i)
	}
	return l
}

// shape is how great a random function is at most.
type shape struct{ blocks, regs, phis, code int }

var small = shape{8, 6, 3, 5}

// randomProgram may be, and mostly does something for a while. Some blocks of its functions are not reached.
func randomProgram(r *rand.Rand, s shape) api.Program {
	p := api.Program{Global: 4 * r.Intn(6)}
	for i := range 1 + r.Intn(3) {
		f := api.Func{Name: string(rune('a' + i)), Params: r.Intn(4), Slots: 4 * r.Intn(4)}
		if i == 0 {
			f.Params = 0
		}
		f.Regs = f.Params + 2 + r.Intn(s.regs)
		p.Funcs = append(p.Funcs, f)
	}
	for i := range p.Funcs {
		p.Funcs[i].Blocks = randomBlocks(r, p, p.Funcs[i], s)
	}
	return p
}

func randomBlocks(r *rand.Rand, p api.Program, f api.Func, s shape) []api.Block {
	f.Blocks = make([]api.Block, 2+r.Intn(s.blocks))
	n := len(f.Blocks)
	target := func() int { return 1 + r.Intn(n-1) }
	for i := range f.Blocks {
		switch r.Intn(6) {
		case 0:
			f.Blocks[i] = give(r.Intn(f.Regs+1) - 1)
		case 1, 2:
			f.Blocks[i] = jump(target())
		default:
			f.Blocks[i] = branch(r.Intn(f.Regs), target(), target())
		}
	}
	for i, preds := range ir.Preds(f) {
		var code []api.Instr
		for range r.Intn(s.phis) {
			args := make([]int, len(preds))
			for j := range args {
				args[j] = r.Intn(f.Regs)
			}
			code = append(code, phi(r.Intn(f.Regs), slices.Clone(preds), args))
		}
		for range r.Intn(s.code) {
			code = append(code, randomInstr(r, p, f))
		}
		f.Blocks[i].Code = code
	}
	return f.Blocks
}

func randomInstr(r *rand.Rand, p api.Program, f api.Func) api.Instr {
	reg := func() int { return r.Intn(f.Regs) }
	alus := []int{api.AluAdd, api.AluSub, api.AluLt, api.AluXor, api.AluShl, api.AluDiv, api.AluEq}
	switch r.Intn(20) {
	case 0, 1, 2:
		return constant(reg(), int32(r.Intn(9)-4))
	case 3, 4:
		return copied(reg(), reg())
	case 5, 6, 7, 8:
		return reckoned(reg(), alus[r.Intn(len(alus))], reg(), reg())
	case 9:
		return api.Instr{Op: api.OpGlobal, Dst: reg(), Imm: int32(r.Intn(p.Global + 1))}
	case 10:
		return api.Instr{Op: api.OpSlot, Dst: reg(), Imm: int32(r.Intn(f.Slots + 1))}
	case 11:
		return load(reg(), reg())
	case 12:
		return store(reg(), reg())
	case 13:
		return checked(reg())
	case 14:
		return got(reg())
	case 15, 16, 17:
		return put(reg())
	}
	which := r.Intn(len(p.Funcs))
	args := make([]int, p.Funcs[which].Params)
	for i := range args {
		args[i] = reg()
	}
	return called(r.Intn(f.Regs+1)-1, int32(which), args...)
}

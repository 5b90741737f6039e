package ssa

import (
	"math/rand"
	"slices"
	"strings"
	"testing"

	"crucible/api"
	"crucible/ir"
	"crucible/irrun"
)

func constant(dst int, imm int32) api.Instr { return api.Instr{Op: api.OpConst, Dst: dst, Imm: imm} }

func copied(dst, from int) api.Instr {
	return api.Instr{Op: api.OpCopy, Dst: dst, Args: []int{from}}
}

func reckoned(dst, alu, a, b int) api.Instr {
	return api.Instr{Op: api.OpAlu, Dst: dst, Alu: alu, Args: []int{a, b}}
}

func called(dst int, function int32, args ...int) api.Instr {
	return api.Instr{Op: api.OpCall, Dst: dst, Imm: function, Args: args}
}

func got(dst int) api.Instr { return api.Instr{Op: api.OpGet, Dst: dst} }

func put(arg int) api.Instr { return api.Instr{Op: api.OpPut, Dst: -1, Args: []int{arg}} }

func phi(dst int, pred, args []int) api.Instr {
	return api.Instr{Op: api.OpPhi, Dst: dst, Args: args, Pred: pred}
}

func jump(to int, code ...api.Instr) api.Block {
	return api.Block{Code: code, End: api.EndJump, To: []int{to}}
}

func branch(arg, yes, no int, code ...api.Instr) api.Block {
	return api.Block{Code: code, End: api.EndBranch, Arg: arg, To: []int{yes, no}}
}

func give(arg int, code ...api.Instr) api.Block {
	return api.Block{Code: code, End: api.EndReturn, Arg: arg}
}

func function(params, regs int, blocks ...api.Block) api.Func {
	return api.Func{Name: "f", Params: params, Regs: regs, Blocks: blocks}
}

// programOf has main as its first function.
func programOf(funcs ...api.Func) api.Program { return api.Program{Funcs: funcs} }

// formOf is a function's form, held to what Ss1 says of it.
func formOf(t *testing.T, p api.Program, f api.Func) api.Func {
	t.Helper()
	made, e := Make(p, f)
	if e != api.OK {
		t.Fatalf("Make: error %d", e)
	}
	if made.Name != f.Name || made.Params != f.Params || made.Slots != f.Slots {
		t.Fatalf("%q, %d, %d of %q, %d, %d", made.Name, made.Params, made.Slots, f.Name, f.Params, f.Slots)
	}
	if !modelInForm(p, made) {
		t.Fatalf("%+v is not in form, of %+v", made, f)
	}
	if !InForm(p, made) {
		t.Fatalf("InForm does not tell so of %+v", made)
	}
	return made
}

// wholeOf is a program with each of its functions in form, held to what Ss1 says of it.
func wholeOf(t *testing.T, p api.Program) api.Program {
	t.Helper()
	q, e := Whole(p)
	if e != api.OK {
		t.Fatalf("Whole: error %d", e)
	}
	if len(q.Funcs) != len(p.Funcs) || q.Global != p.Global || q.Main != p.Main || !slices.Equal(q.Data, p.Data) {
		t.Fatalf("%+v of %+v", q, p)
	}
	for i, f := range p.Funcs {
		if !ir.Same(q.Funcs[i], formOf(t, p, f)) {
			t.Fatalf("the function %d of %+v", i, q)
		}
	}
	return q
}

// expectSame holds what comes of two programs against one another.
func expectSame(t *testing.T, p, q api.Program, input string, fuel, deep int) api.End {
	t.Helper()
	a := irrun.Run(p, input, fuel, deep)
	b := irrun.Run(q, input, slower(q)*(fuel+1), deep)
	if a.Kind == api.EndFuel {
		if !strings.HasPrefix(b.Out, a.Out) {
			t.Fatalf("%q, then %q: %+v, %+v", a.Out, b.Out, p, q)
		}
	} else if a != b {
		t.Fatalf("%+v, then %+v: %+v, %+v", a, b, p, q)
	}
	return a
}

// slower is how many steps of a form one step of what it is made of can be: all OpPhis of a block, and the way by the hub.
func slower(p api.Program) int {
	most := 0
	for _, f := range p.Funcs {
		for _, b := range f.Blocks {
			most = max(most, phiCount(b))
		}
	}
	return most + 40
}

// countOf is how many instructions of a kind a function has.
func countOf(f api.Func, op int) int {
	n := 0
	for _, b := range f.Blocks {
		for _, x := range b.Code {
			if x.Op == op {
				n++
			}
		}
	}
	return n
}

// shape is how great a random function is at most.
type shape struct{ blocks, regs, phis, code int }

// randomProgram may be, and mostly does something for a while. Nearly none of its functions is in form.
func randomProgram(r *rand.Rand, s shape) api.Program {
	p := api.Program{Global: r.Intn(24)}
	if p.Global > 6 {
		p.Data = []api.Fill{{At: 1, Bytes: "\x80\x7F"}, {At: 5, Bytes: "\xFE"}}
	}
	for i := range 1 + r.Intn(3) {
		f := api.Func{Name: string(rune('a' + i)), Params: r.Intn(4), Slots: 4 * r.Intn(4)}
		if i == 0 {
			f.Params = 0
		}
		f.Regs = f.Params + 2 + r.Intn(s.regs)
		p.Funcs = append(p.Funcs, f)
	}
	for i := range p.Funcs {
		p.Funcs[i].Blocks = randomBlocks(r, p, p.Funcs[i], s)
	}
	return p
}

func randomBlocks(r *rand.Rand, p api.Program, f api.Func, s shape) []api.Block {
	f.Blocks = make([]api.Block, 2+r.Intn(s.blocks))
	n := len(f.Blocks)
	target := func() int { return 1 + r.Intn(n-1) }
	for i := range f.Blocks {
		switch r.Intn(6) {
		case 0:
			f.Blocks[i] = give(r.Intn(f.Regs+1) - 1)
		case 1, 2:
			f.Blocks[i] = jump(target())
		default:
			f.Blocks[i] = branch(r.Intn(f.Regs), target(), target())
		}
	}
	for i, preds := range ir.Preds(f) {
		var code []api.Instr
		for range r.Intn(s.phis) {
			args := make([]int, len(preds))
			for j := range args {
				args[j] = r.Intn(f.Regs)
			}
			code = append(code, phi(r.Intn(f.Regs), slices.Clone(preds), args))
		}
		for range r.Intn(s.code) {
			code = append(code, randomInstr(r, p, f))
		}
		f.Blocks[i].Code = code
	}
	return f.Blocks
}

func randomInstr(r *rand.Rand, p api.Program, f api.Func) api.Instr {
	reg := func() int { return r.Intn(f.Regs) }
	wide := 1 + 3*r.Intn(2)
	at := int32(r.Intn(9) - 4)
	alus := []int{api.AluAdd, api.AluSub, api.AluLt, api.AluXor, api.AluShl, api.AluDiv, api.AluRemU, api.AluEq}
	switch r.Intn(20) {
	case 0, 1, 2:
		return constant(reg(), at)
	case 3:
		return copied(reg(), reg())
	case 4, 5, 6, 7, 8:
		return reckoned(reg(), alus[r.Intn(len(alus))], reg(), reg())
	case 9:
		return api.Instr{Op: api.OpGlobal, Dst: reg(), Imm: int32(r.Intn(p.Global + 1))}
	case 10:
		return api.Instr{Op: api.OpSlot, Dst: reg(), Imm: int32(r.Intn(f.Slots + 1))}
	case 11:
		return api.Instr{Op: api.OpLoad, Dst: reg(), Args: []int{reg()}, Imm: at, Wide: wide}
	case 12:
		return api.Instr{Op: api.OpStore, Dst: -1, Args: []int{reg(), reg()}, Imm: at, Wide: wide}
	case 13:
		return api.Instr{Op: api.OpCheck, Dst: -1, Args: []int{reg()}, Imm: int32(api.TrapDivide + r.Intn(2))}
	case 14:
		return got(reg())
	case 15, 16, 17:
		return put(reg())
	}
	which := r.Intn(len(p.Funcs))
	args := make([]int, p.Funcs[which].Params)
	for i := range args {
		args[i] = reg()
	}
	return called(r.Intn(f.Regs+1)-1, int32(which), args...)
}

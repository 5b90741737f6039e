package ir

import (
	"math"
	"math/rand"
	"slices"
	"testing"

	"crucible/api"
)

// modelled is CheckFunc, said otherwise: each instruction is held against one made of the parts that count for its Op.
func modelled(p api.Program, f api.Func) api.Errno {
	ok := len(f.Blocks) >= 1 && len(f.Blocks) <= 4096 && f.Params >= 0 && f.Params <= 12 && f.Regs >= f.Params &&
		f.Regs <= 65536 && f.Slots >= 0 && f.Slots <= 65536 && f.Slots%4 == 0
	count := 0
	for i, b := range f.Blocks {
		count += len(b.Code)
		ok = ok && modelledEnd(f, b)
		phis := true
		for _, x := range b.Code {
			phis = phis && x.Op == api.OpPhi
			ok = ok && (phis || x.Op != api.OpPhi) && modelledInstr(p, f, i, x)
		}
	}
	if !ok || count > 65536 {
		return api.ErrArg
	}
	return api.OK
}

func modelledEnd(f api.Func, b api.Block) bool {
	for _, to := range b.To {
		if to < 1 || to >= len(f.Blocks) {
			return false
		}
	}
	switch len(b.To) {
	case 0:
		return b.End == api.EndReturn && b.Arg >= -1 && b.Arg < f.Regs
	case 1:
		return b.End == api.EndJump && b.Arg == 0
	case 2:
		return b.End == api.EndBranch && b.Arg >= 0 && b.Arg < f.Regs
	}
	return false
}

func modelledInstr(p api.Program, f api.Func, block int, x api.Instr) bool {
	ok := true
	for _, r := range x.Args {
		ok = ok && r >= 0 && r < f.Regs
	}
	y := api.Instr{Op: x.Op, Dst: -1, Args: x.Args}
	args := -1
	imm := int(x.Imm)
	switch x.Op {
	case api.OpConst:
		y.Dst, y.Imm, args = x.Dst, x.Imm, 0
	case api.OpCopy:
		y.Dst, args = x.Dst, 1
	case api.OpAlu:
		y.Dst, y.Alu, args = x.Dst, x.Alu, 2
		ok = ok && x.Alu > 0 && x.Alu < 20
	case api.OpGlobal:
		y.Dst, y.Imm, args = x.Dst, x.Imm, 0
		ok = ok && imm >= 0 && imm <= p.Global
	case api.OpSlot:
		y.Dst, y.Imm, args = x.Dst, x.Imm, 0
		ok = ok && imm >= 0 && imm <= f.Slots
	case api.OpLoad:
		y.Dst, y.Imm, y.Wide, args = x.Dst, x.Imm, x.Wide, 1
		ok = ok && (x.Wide == 1 || x.Wide == 4)
	case api.OpStore:
		y.Imm, y.Wide, args = x.Imm, x.Wide, 2
		ok = ok && (x.Wide == 1 || x.Wide == 4)
	case api.OpCheck:
		y.Imm, args = x.Imm, 1
		ok = ok && (x.Imm == api.TrapDivide || x.Imm == api.TrapBounds)
	case api.OpCall:
		y.Dst, y.Imm = x.Dst, x.Imm
		if imm >= 0 && imm < len(p.Funcs) {
			args = p.Funcs[imm].Params
		}
	case api.OpGet:
		y.Dst, args = x.Dst, 0
	case api.OpPut:
		args = 1
	case api.OpPhi:
		y.Dst = x.Dst
		for i, b := range f.Blocks {
			if slices.Contains(b.To, block) {
				y.Pred = append(y.Pred, i)
			}
		}
		args = len(y.Pred)
	}
	lost := slices.Contains([]int{api.OpStore, api.OpCheck, api.OpPut}, x.Op)
	dst := x.Dst >= 0 && x.Dst < f.Regs || x.Dst == -1 && (lost || x.Op == api.OpCall)
	return ok && dst && len(x.Args) == args && sameInstr(x, y)
}

// nudge turns one thing of a function, mostly to what is near to what may be.
func nudge(r *rand.Rand, f *api.Func) {
	numbers := []int{-2, -1, 0, 1, 2, 3, 4, 5, 6, 7, 8, 9, 10, 12, 13, 19, 20, 99, 100, 101, math.MaxInt, math.MinInt}
	n := numbers[r.Intn(len(numbers))]
	if len(f.Blocks) == 0 {
		return
	}
	b := &f.Blocks[r.Intn(len(f.Blocks))]
	switch r.Intn(16) {
	case 0:
		f.Params = n
	case 1:
		f.Regs = n
	case 2:
		f.Slots = n
	case 3:
		b.End = r.Intn(5)
	case 4:
		b.Arg = n
	case 5:
		b.To = nudgeList(r, b.To, n)
	case 6:
		f.Blocks = slices.Delete(f.Blocks, len(f.Blocks)-1, len(f.Blocks))
	default:
		nudgeCode(r, b, n)
	}
}

func nudgeList(r *rand.Rand, l []int, n int) []int {
	i := r.Intn(len(l) + 1)
	switch {
	case i == len(l) || r.Intn(4) == 0:
		return slices.Insert(slices.Clone(l), i, n)
	case r.Intn(3) == 0:
		return slices.Delete(slices.Clone(l), i, i+1)
	}
	l[i] = n
	return l
}

func nudgeCode(r *rand.Rand, b *api.Block, n int) {
	if len(b.Code) == 0 {
		return
	}
	i := r.Intn(len(b.Code))
	x := &b.Code[i]
	switch r.Intn(9) {
	case 0:
		x.Op = r.Intn(14)
	case 1:
		x.Dst = n
	case 2:
		x.Imm = int32(n)
	case 3:
		x.Alu = n
	case 4:
		x.Wide = n
	case 5, 6:
		x.Args = nudgeList(r, x.Args, n)
	case 7:
		x.Pred = nudgeList(r, x.Pred, n)
	case 8:
		j := r.Intn(len(b.Code))
		b.Code[i], b.Code[j] = b.Code[j], b.Code[i]
	}
}

func TestAgainstTheModel(t *testing.T) {
	r := rand.New(rand.NewSource(5))
	fine := 0
	for i := range 60000 {
		f := everything()
		p := programOf(everything())
		for range r.Intn(4) {
			nudge(r, &f)
		}
		want := modelled(p, f)
		if e := CheckFunc(p, f); e != want {
			t.Fatalf("%d: CheckFunc = %d, want %d, of %+v", i, e, want, f)
		}
		if want == api.OK {
			fine++
		}
	}
	if fine < 10000 || fine > 50000 {
		t.Errorf("%d of 60000 may be: the test says little", fine)
	}
}

// The calls end, without a panic, whatever they are given.
func TestStrangeFunctions(t *testing.T) {
	r := rand.New(rand.NewSource(6))
	for range 20000 {
		f := everything()
		for range 40 {
			nudge(r, &f)
		}
		p := programOf(f)
		Check(p)
		if len(Preds(f)) != len(f.Blocks) || len(Reached(f)) != len(f.Blocks) || !Same(Copy(f), f) {
			t.Fatalf("of %+v", f)
		}
	}
}

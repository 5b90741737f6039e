package ir

import (
	"math"
	"slices"

	"crucible/api"
)

// slotSize is what a frame's slots are a multiple of.
const slotSize = 4

// none is the Dst of an instruction that gives no register a value, and the Arg of an EndReturn that tells nothing.
const none = -1

// Check tells why a program may not be.
func Check(p api.Program) api.Errno {
	if !mayBe(p) {
		return api.ErrArg
	}
	for _, f := range p.Funcs {
		if e := CheckFunc(p, f); e != api.OK {
			return e
		}
	}
	return api.OK
}

// mayBe tells whether a program may be, but for its functions one by one.
func mayBe(p api.Program) bool {
	return within(len(p.Funcs), 1, api.MaxFuncs) && within(p.Global, 0, api.MaxGlobal) && dataFits(p) &&
		within(p.Main, 0, len(p.Funcs)-1) && p.Funcs[p.Main].Params == 0
}

func within(n, low, high int) bool { return n >= low && n <= high }

func dataFits(p api.Program) bool {
	free := 0
	for _, d := range p.Data {
		// At may be any number: its end is never reckoned ahead of knowing that it lies within the globals.
		if len(d.Bytes) == 0 || !within(d.At, free, p.Global-len(d.Bytes)) {
			return false
		}
		free = d.At + len(d.Bytes)
	}
	return true
}

// CheckFunc tells why a function of a program may not be.
func CheckFunc(p api.Program, f api.Func) api.Errno {
	if !sizesFit(f) || !endsFit(f) {
		return api.ErrArg
	}
	preds := Preds(f)
	if len(preds[0]) > 0 {
		return api.ErrArg
	}
	for i, b := range f.Blocks {
		at := &place{program: p, function: f, preds: preds[i]}
		if !at.codeFits(b.Code) {
			return api.ErrArg
		}
	}
	return api.OK
}

func sizesFit(f api.Func) bool {
	return within(len(f.Blocks), 1, api.MaxBlocks) && codeSize(f) <= api.MaxCode &&
		within(f.Params, 0, api.MaxArgs) && within(f.Regs, f.Params, api.MaxRegs) &&
		within(f.Slots, 0, api.MaxFrame) && f.Slots%slotSize == 0
}

func codeSize(f api.Func) int {
	n := 0
	for _, b := range f.Blocks {
		n += len(b.Code)
	}
	return n
}

func endsFit(f api.Func) bool {
	for _, b := range f.Blocks {
		if !endFits(f, b) {
			return false
		}
	}
	return true
}

func endFits(f api.Func, b api.Block) bool {
	switch b.End {
	case api.EndJump:
		return b.Arg == 0 && len(b.To) == 1 && allWithin(b.To, len(f.Blocks))
	case api.EndBranch:
		return within(b.Arg, 0, f.Regs-1) && len(b.To) == 2 && allWithin(b.To, len(f.Blocks))
	case api.EndReturn:
		return within(b.Arg, none, f.Regs-1) && len(b.To) == 0
	}
	return false
}

// allWithin tells whether all numbers of a list are from 0 on, below n.
func allWithin(l []int, n int) bool {
	for _, i := range l {
		if !within(i, 0, n-1) {
			return false
		}
	}
	return true
}

// place is where an instruction stands: what it may be hangs on these.
type place struct {
	program  api.Program
	function api.Func
	preds    []int // of its block
}

func (at *place) codeFits(code []api.Instr) bool {
	other := false
	for _, x := range code {
		if x.Op != api.OpPhi {
			other = true
		} else if other {
			return false
		}
		if !at.fits(x) {
			return false
		}
	}
	return true
}

// fits tells whether an instruction has what its Op has, and nothing else.
func (at *place) fits(x api.Instr) bool {
	s := at.shapeOf(x)
	return s.dst != dstUnknown && at.dstFits(x.Dst, s.dst) &&
		len(x.Args) == s.args && allWithin(x.Args, at.function.Regs) &&
		within(int(x.Imm), s.low, s.high) && aluFits(x.Alu, s.alu) && wideFits(x.Wide, s.wide) &&
		slices.Equal(x.Pred, s.pred)
}

// Whether an instruction gives a register a value.
const (
	dstUnknown = iota // it is no instruction
	dstNever
	dstAlways
	dstPerhaps
)

// shape is what an instruction of some Op has. (What it has not is zero.)
type shape struct {
	dst       int
	args      int
	low, high int // of Imm
	alu, wide bool
	pred      []int
}

// shapeOf answers one without a dst, where x has no Op that is one, or calls what is no function.
func (at *place) shapeOf(x api.Instr) shape {
	switch x.Op {
	case api.OpConst:
		return shape{dst: dstAlways, low: math.MinInt32, high: math.MaxInt32}
	case api.OpCopy:
		return shape{dst: dstAlways, args: 1}
	case api.OpAlu:
		return shape{dst: dstAlways, args: 2, alu: true}
	case api.OpGlobal:
		return shape{dst: dstAlways, high: at.program.Global}
	case api.OpSlot:
		return shape{dst: dstAlways, high: at.function.Slots}
	case api.OpLoad:
		return shape{dst: dstAlways, args: 1, low: math.MinInt32, high: math.MaxInt32, wide: true}
	case api.OpStore:
		return shape{dst: dstNever, args: 2, low: math.MinInt32, high: math.MaxInt32, wide: true}
	case api.OpCheck:
		return shape{dst: dstNever, args: 1, low: api.TrapDivide, high: api.TrapBounds}
	case api.OpCall:
		return at.shapeOfCall(int(x.Imm))
	case api.OpGet:
		return shape{dst: dstAlways}
	case api.OpPut:
		return shape{dst: dstNever, args: 1}
	case api.OpPhi:
		return shape{dst: dstAlways, args: len(at.preds), pred: at.preds}
	}
	return shape{}
}

func (at *place) shapeOfCall(function int) shape {
	last := len(at.program.Funcs) - 1
	if !within(function, 0, last) {
		return shape{}
	}
	return shape{dst: dstPerhaps, args: at.program.Funcs[function].Params, high: last}
}

func (at *place) dstFits(dst, has int) bool {
	if dst == none {
		return has != dstAlways
	}
	return has != dstNever && within(dst, 0, at.function.Regs-1)
}

func aluFits(alu int, has bool) bool {
	if !has {
		return alu == 0
	}
	return isAlu(alu)
}

func wideFits(wide int, has bool) bool {
	if !has {
		return wide == 0
	}
	return wide == 1 || wide == 4
}

package brick

import (
	"slices"

	"crucible/api"
	"crucible/ir"
)

// Shape is how great the functions of a random program are at most, and which instructions they have more of.
type Shape struct {
	Blocks, Regs, Phis, Code int
	Constants                int // of 20 instructions about so many more are an OpConst
}

// Small is a shape that models can be asked of.
var Small = Shape{Blocks: 8, Regs: 6, Phis: 3, Code: 5}

// Random is a program that may be, and mostly does something for a while. Nearly none of its functions is in form; some of
// their blocks are not reached. Each choice among n things is what choose tells: 0 to n - 1.
func Random(choose func(n int) int, s Shape) api.Program {
	p := api.Program{Global: choose(24)}
	if p.Global > 6 {
		p.Data = []api.Fill{{At: 1, Bytes: "\x80\x7F"}, {At: 5, Bytes: "\xFE"}}
	}
	for i := range 1 + choose(3) {
		f := api.Func{Name: string(rune('a' + i)), Params: choose(4), Slots: 4 * choose(4)}
		if i == 0 {
			f.Params = 0
		}
		f.Regs = f.Params + 2 + choose(s.Regs)
		p.Funcs = append(p.Funcs, f)
	}
	m := maker{choose: choose, shape: s, program: p}
	for i := range p.Funcs {
		p.Funcs[i].Blocks = m.blocks(p.Funcs[i])
	}
	return p
}

type maker struct {
	choose  func(n int) int
	shape   Shape
	program api.Program
}

func (m *maker) blocks(f api.Func) []api.Block {
	f.Blocks = make([]api.Block, 2+m.choose(m.shape.Blocks))
	for i := range f.Blocks {
		f.Blocks[i] = m.ending(f)
	}
	for i, preds := range ir.Preds(f) {
		var code []api.Instr
		if m.shape.Phis > 0 {
			code = m.phis(f, preds)
		}
		for range m.choose(m.shape.Code) {
			code = append(code, m.instr(f))
		}
		f.Blocks[i].Code = code
	}
	return f.Blocks
}

func (m *maker) ending(f api.Func) api.Block {
	to := func() int { return 1 + m.choose(len(f.Blocks)-1) }
	switch m.choose(6) {
	case 0:
		return Give(m.choose(f.Regs+1) - 1)
	case 1, 2:
		return Jump(to())
	}
	return Branch(m.choose(f.Regs), to(), to())
}

func (m *maker) phis(f api.Func, preds []int) []api.Instr {
	var code []api.Instr
	for range m.choose(m.shape.Phis) {
		args := make([]int, len(preds))
		for j := range args {
			args[j] = m.choose(f.Regs)
		}
		code = append(code, Phi(m.choose(f.Regs), slices.Clone(preds), args))
	}
	return code
}

func (m *maker) instr(f api.Func) api.Instr {
	reg := func() int { return m.choose(f.Regs) }
	at := int32(m.choose(9) - 4)
	wide := 1 + 3*m.choose(2)
	switch m.choose(20 + m.shape.Constants) {
	case 0:
		return Copied(reg(), reg())
	case 1, 2, 3, 4, 5:
		return Reckoned(reg(), m.alu(), reg(), reg())
	case 6:
		return GlobalAt(reg(), int32(m.choose(m.program.Global+1)))
	case 7:
		return SlotAt(reg(), int32(m.choose(f.Slots+1)))
	case 8:
		x := Loaded(reg(), reg(), wide)
		x.Imm = at
		return x
	case 9:
		x := Stored(reg(), reg(), wide)
		x.Imm = at
		return x
	case 10:
		return Checked(reg(), int32(api.TrapDivide+m.choose(2)))
	case 11, 12:
		return Got(reg())
	case 13, 14, 15:
		return Put(reg())
	case 16:
		return m.call(f)
	}
	return Constant(reg(), at)
}

func (m *maker) alu() int {
	l := [...]int{api.AluAdd, api.AluSub, api.AluLt, api.AluXor, api.AluShl, api.AluDiv, api.AluRemU, api.AluEq}
	return l[m.choose(len(l))]
}

func (m *maker) call(f api.Func) api.Instr {
	which := m.choose(len(m.program.Funcs))
	args := make([]int, m.program.Funcs[which].Params)
	for i := range args {
		args[i] = m.choose(f.Regs)
	}
	return Called(m.choose(f.Regs+1)-1, int32(which), args...)
}

package irrun

import (
	"math/rand"
	"strings"
	"testing"

	"crucible/api"
	"crucible/ir"
	"crucible/word"
)

// model is the chapter's words again, said otherwise: calls are calls, memory a map of all bytes that may be used.
type model struct {
	p     api.Program
	bytes map[uint32]byte
	input string
	fuel  int
	deep  int
	low   uint32
	under int
	end   api.End
	alu   int
	args  [2]int
	fn    int
	times int
}

// over is what a model's run ends by.
type over struct{}

func modelCount(p api.Program, input string, fuel, deep, alu int, args [2]int, fn int) (n int, end api.End) {
	m := &model{p: p, bytes: map[uint32]byte{}, input: input, fuel: fuel, deep: deep, low: api.StackTop, alu: alu, args: args, fn: fn}
	defer func() {
		if e := recover(); e != nil {
			_ = e.(over)
			n, end = m.times, m.end
		}
	}()
	for i := range p.Global {
		m.bytes[uint32(api.GlobalBase+i)] = 0
	}
	for _, d := range p.Data {
		for i := range len(d.Bytes) {
			m.bytes[uint32(api.GlobalBase+d.At+i)] = d.Bytes[i]
		}
	}
	m.end.Code = int32(m.call(p.Main, nil))
	m.stop(api.EndExit, 0)
	return
}

func (m *model) stop(kind, trap int) {
	m.end.Kind, m.end.Trap = kind, trap
	panic(over{})
}

func (m *model) step() {
	if m.fuel <= 0 {
		m.stop(api.EndFuel, 0)
	}
	m.fuel--
}

func (m *model) call(which int, args []uint32) uint32 {
	f := m.p.Funcs[which]
	if m.under >= m.deep || int(m.low)-f.Slots < api.StackLow {
		m.stop(api.EndTrap, api.TrapStack)
	}
	m.under++
	m.low -= uint32(f.Slots)
	for i := range f.Slots {
		m.bytes[m.low+uint32(i)] = 0
	}
	regs := make([]uint32, f.Regs)
	copy(regs, args)
	told := m.blocks(which, f, regs)
	for i := range f.Slots {
		delete(m.bytes, m.low+uint32(i))
	}
	m.low += uint32(f.Slots)
	m.under--
	return told
}

func (m *model) blocks(which int, f api.Func, regs []uint32) uint32 {
	at, from := 0, -1
	for {
		b := f.Blocks[at]
		old := append([]uint32{}, regs...)
		for _, x := range b.Code {
			m.step()
			if x.Op == api.OpPhi {
				regs[x.Dst] = 0
				for i, pred := range x.Pred {
					if pred == from {
						regs[x.Dst] = old[x.Args[i]]
					}
				}
				continue
			}
			m.instruction(which, x, regs)
		}
		m.step()
		from = at
		switch {
		case b.End == api.EndReturn && b.Arg < 0:
			return 0
		case b.End == api.EndReturn:
			return regs[b.Arg]
		case b.End == api.EndBranch && regs[b.Arg] == 0:
			at = b.To[1]
		default:
			at = b.To[0]
		}
	}
}

func (m *model) instruction(which int, x api.Instr, regs []uint32) {
	value := uint32(0)
	var a []uint32
	for _, r := range x.Args {
		a = append(a, regs[r])
	}
	switch x.Op {
	case api.OpConst:
		value = uint32(x.Imm)
	case api.OpCopy:
		value = a[0]
	case api.OpAlu:
		if which == m.fn && x.Alu == m.alu && m.args == [2]int{x.Args[0], x.Args[1]} {
			m.times++
		}
		trap := 0
		if value, trap = word.Alu(x.Alu, a[0], a[1]); trap != 0 {
			m.stop(api.EndTrap, trap)
		}
	case api.OpGlobal:
		value = uint32(api.GlobalBase + int(x.Imm))
	case api.OpSlot:
		value = m.low + uint32(x.Imm)
	case api.OpLoad:
		for i := x.Wide - 1; i >= 0; i-- {
			value = value<<8 | uint32(m.bytes[m.must(a[0], x, i)])
		}
	case api.OpStore:
		for i := range x.Wide {
			m.must(a[0], x, i)
		}
		for i := range x.Wide {
			m.bytes[m.must(a[0], x, i)] = byte(a[1] >> (8 * i))
		}
	case api.OpCheck:
		if a[0] == 0 {
			m.stop(api.EndTrap, int(x.Imm))
		}
	case api.OpCall:
		value = m.call(int(x.Imm), a)
	case api.OpGet:
		value = 0xFFFFFFFF
		if m.end.Used < len(m.input) {
			value = uint32(m.input[m.end.Used])
			m.end.Used++
		}
	case api.OpPut:
		m.end.Out += string([]byte{byte(a[0])})
	}
	if x.Dst >= 0 {
		regs[x.Dst] = value
	}
}

// must is an address that may be used.
func (m *model) must(base uint32, x api.Instr, i int) uint32 {
	address := base + uint32(x.Imm) + uint32(i)
	if _, ok := m.bytes[address]; !ok {
		m.stop(api.EndTrap, api.TrapMemory)
	}
	return address
}

// randomProgram may be, and mostly does something for a while.
func randomProgram(r *rand.Rand) api.Program {
	p := api.Program{Global: r.Intn(24)}
	if p.Global > 6 {
		p.Data = []api.Fill{{At: 1, Bytes: "\x80\x7F"}, {At: 5, Bytes: "\xFE"}}
	}
	for i := range 1 + r.Intn(4) {
		f := api.Func{Params: r.Intn(4), Slots: 4 * r.Intn(4)}
		if i == 0 {
			f.Params = 0
		}
		f.Regs = f.Params + 2 + r.Intn(4)
		p.Funcs = append(p.Funcs, f)
	}
	for i := range p.Funcs {
		p.Funcs[i].Blocks = randomBlocks(r, p, p.Funcs[i])
	}
	return p
}

func randomBlocks(r *rand.Rand, p api.Program, f api.Func) []api.Block {
	f.Blocks = make([]api.Block, 2+r.Intn(5))
	n := len(f.Blocks)
	target := func() int { return 1 + r.Intn(n-1) }
	for i := range f.Blocks {
		switch r.Intn(6) {
		case 0:
			f.Blocks[i] = give(r.Intn(f.Regs+1) - 1)
		case 1, 2:
			f.Blocks[i] = jump(target())
		default:
			f.Blocks[i] = branch(r.Intn(f.Regs), target(), target())
		}
	}
	for i, preds := range ir.Preds(f) {
		var code []api.Instr
		for range r.Intn(4) {
			args := make([]int, len(preds))
			for j := range args {
				args[j] = r.Intn(f.Regs)
			}
			code = append(code, phi(r.Intn(f.Regs), append([]int{}, preds...), args))
		}
		for range r.Intn(6) {
			code = append(code, randomInstr(r, p, f))
		}
		f.Blocks[i].Code = code
	}
	return f.Blocks
}

func randomInstr(r *rand.Rand, p api.Program, f api.Func) api.Instr {
	reg := func() int { return r.Intn(f.Regs) }
	wide := 1 + 3*r.Intn(2)
	switch r.Intn(16) {
	case 0, 1:
		return constant(reg(), int32(r.Intn(9)-4))
	case 2:
		return copied(reg(), reg())
	case 3, 4, 5:
		return reckoned(reg(), []int{api.AluAdd, api.AluSub, api.AluLt, api.AluXor, api.AluShl, api.AluDiv, api.AluRemU, api.AluEq}[r.Intn(8)], reg(), reg())
	case 6:
		return global(reg(), int32(r.Intn(p.Global+1)))
	case 7:
		return slot(reg(), int32(r.Intn(f.Slots+1)))
	case 8:
		return load(reg(), reg(), int32(r.Intn(9)-4), wide)
	case 9:
		return store(reg(), reg(), int32(r.Intn(9)-4), wide)
	case 10:
		return checked(reg(), int32(api.TrapDivide+r.Intn(2)))
	case 11:
		return got(reg())
	case 12, 13:
		return put(reg())
	}
	which := r.Intn(len(p.Funcs))
	args := make([]int, p.Funcs[which].Params)
	for i := range args {
		args[i] = reg()
	}
	return called(r.Intn(f.Regs+1)-1, int32(which), args...)
}

func TestRandomProgramsAgainstTheModel(t *testing.T) {
	r := rand.New(rand.NewSource(15))
	ends := map[[2]int]int{}
	for range 30000 {
		p := randomProgram(r)
		if ir.Check(p) != api.OK {
			t.Fatalf("may not be: %+v", p)
		}
		input := "ab\x00\xFFzyx"[:r.Intn(8)]
		fuel, deep := r.Intn(400), r.Intn(12)
		alu, args, fn := api.AluAdd+r.Intn(2), [2]int{r.Intn(4), r.Intn(4)}, r.Intn(len(p.Funcs))
		wantTimes, want := modelCount(p, input, fuel, deep, alu, args, fn)
		n, e := Count(p, input, fuel, deep, alu, args[:], fn)
		if n != wantTimes || e != want {
			t.Fatalf("%+v, %q, fuel %d, deep %d: %d, %+v, not %d, %+v", p, input, fuel, deep, n, e, wantTimes, want)
		}
		if run := Run(p, input, fuel, deep); run != want {
			t.Fatalf("Run = %+v, not %+v", run, want)
		}
		ends[[2]int{e.Kind, e.Trap}]++
	}
	for _, kind := range [][2]int{{api.EndExit, 0}, {api.EndFuel, 0}, {api.EndTrap, api.TrapDivide}, {api.EndTrap, api.TrapBounds},
		{api.EndTrap, api.TrapStack}, {api.EndTrap, api.TrapMemory}} {
		if ends[kind] < 300 {
			t.Errorf("the end %v came %d times", kind, ends[kind])
		}
	}
}

func TestMoreFuelAndOtherInput(t *testing.T) {
	r := rand.New(rand.NewSource(16))
	for range 1000 {
		p := randomProgram(r)
		input := "abc"
		last := Run(p, input, 0, 8)
		for fuel := 1; fuel < 120; fuel++ {
			e := Run(p, input, fuel, 8)
			if last.Kind != api.EndFuel && e != last {
				t.Fatalf("fuel %d: %+v behind %+v", fuel, e, last)
			}
			if !strings.HasPrefix(e.Out, last.Out) || e.Used < last.Used || e.Used > len(input) {
				t.Fatalf("fuel %d: %+v behind %+v", fuel, e, last)
			}
			last = e
		}
		if last.Used < len(input) {
			other := input[:last.Used] + "\xC3\xA4quite other bytes"
			if e := Run(p, other, 119, 8); e != last {
				t.Fatalf("input %q: %+v, not %+v", other, e, last)
			}
		}
	}
}

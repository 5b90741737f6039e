package machine

import (
	"strings"
	"testing"

	"crucible/api"
	"crucible/isa"
	"crucible/word"
)

// model is the chapter's machine once more, on one state and in numbers that do not wrap by themselves.
type model struct {
	state
	code, input string
}

func (p *model) stop(kind int) {
	p.ended, p.end.Kind, p.end.Trap = true, api.EndTrap, kind
}

func (p *model) set(r int, w uint32) {
	p.regs[r] = w
	p.regs[0] = 0
}

// found is how many bytes of a load or store begin where, and whether they are all there.
func (p *model) found(x api.Ins) (at, n int, there bool) {
	n = 4
	if x.Op == api.InsLoad1 || x.Op == api.InsStore1 {
		n = 1
	}
	at = int((int64(p.regs[x.A]) + int64(x.Imm) + 1<<32) % (1 << 32))
	return at, n, at%n == 0 && at+n <= len(p.mem)
}

func (p *model) step() {
	if p.ended {
		return
	}
	if p.pc < 0 || p.pc+4 > len(p.code) || p.pc%4 != 0 {
		p.stop(api.TrapCode)
		return
	}
	var w uint32
	for i := range 4 {
		w += uint32(p.code[p.pc+i]) << (8 * i)
	}
	x, err := isa.Decode(w)
	if err != api.OK {
		p.stop(api.TrapCode)
		return
	}
	at := p.pc
	p.pc += 4
	p.do(x)
	if p.ended {
		p.pc = at
	}
}

func (p *model) do(x api.Ins) {
	a := p.regs[x.A]
	jump := false
	switch x.Op {
	case api.InsAddI:
		p.set(x.D, uint32((int64(a)+int64(x.Imm)+1<<32)%(1<<32)))
	case api.InsLow:
		p.set(x.D, uint32((int64(x.Imm)+1<<32)%(1<<32)))
	case api.InsHigh:
		p.set(x.D, p.regs[x.D]%65536+65536*uint32(x.Imm))
	case api.InsLoad4, api.InsLoad1, api.InsStore4, api.InsStore1:
		p.reach(x)
	case api.InsZero:
		jump = a == 0
	case api.InsNot:
		jump = a != 0
	case api.InsJump:
		jump = true
	case api.InsCall:
		p.set(14, uint32(p.pc))
		jump = true
	case api.InsReturn:
		p.pc = int(a)
	case api.InsGet:
		p.get(x.D)
	case api.InsPut:
		p.end.Out += string([]byte{byte(a % 256)})
	case api.InsTrap:
		p.stop(int(x.Imm))
	case api.InsHalt:
		p.ended, p.end.Kind, p.end.Code = true, api.EndExit, int32(a)
	default:
		v, kind := word.Alu(x.Op, a, p.regs[x.B])
		if kind != api.TrapNone {
			p.stop(kind)
			return
		}
		p.set(x.D, v)
	}
	if jump {
		p.pc += 4 * int(x.Imm)
	}
}

func (p *model) reach(x api.Ins) {
	at, n, there := p.found(x)
	switch {
	case !there:
		p.stop(api.TrapMemory)
	case x.Op == api.InsStore4 || x.Op == api.InsStore1:
		p.mem = laid(p.mem, at, bytesOf(p.regs[x.D])[:n])
	default:
		var v uint32
		for i := range n {
			v += uint32(p.mem[at+i]) << (8 * i)
		}
		p.set(x.D, v)
	}
}

func (p *model) get(r int) {
	if p.end.Used < len(p.input) {
		p.set(r, uint32(p.input[p.end.Used]))
		p.end.Used++
		return
	}
	p.set(r, minus1)
}

// someIns is an instruction that may be, whose places and addresses mostly are near.
func someIns(t *testing.T, next func(int) int) api.Ins {
	t.Helper()
	ops := []int{
		api.InsAddI, api.InsAddI, api.InsLow, api.InsLow, api.InsHigh, api.InsLoad4, api.InsLoad1, api.InsStore4, api.InsStore1, api.InsStore1,
		api.InsZero, api.InsNot, api.InsJump, api.InsCall, api.InsReturn, api.InsGet, api.InsGet, api.InsPut, api.InsPut, api.InsTrap, api.InsHalt,
		1 + next(19), 1 + next(19), 1 + next(19), 1 + next(19),
	}
	registers := []int{0, 1, 2, 3, 14, 15}
	imms := []int32{-32768, -4096, -8, -5, -4, -3, -2, -1, 0, 1, 2, 3, 4, 5, 8, 12, 16, 4096, 32767, 65535}
	for {
		x := api.Ins{Op: ops[next(len(ops))], D: registers[next(6)], A: registers[next(6)], B: registers[next(6)], Imm: imms[next(len(imms))]}
		// Parts that the Op does not have are taken away, till it may be.
		for _, y := range []api.Ins{x, {Op: x.Op, D: x.D, A: x.A, B: x.B}, {Op: x.Op, D: x.D, A: x.A, Imm: x.Imm}, {Op: x.Op, D: x.D, Imm: x.Imm}, {Op: x.Op, A: x.A, Imm: x.Imm}, {Op: x.Op, D: x.D}, {Op: x.Op, A: x.A}, {Op: x.Op, Imm: x.Imm}} {
			if isa.Check(y) == api.OK {
				return y
			}
		}
	}
}

// Ma1 to Ma4: whatever the code, each step does what the model does.
func TestAgainstModel(t *testing.T) {
	seed := uint32(7)
	next := func(n int) int {
		seed = seed*1664525 + 1013904223
		return int(seed>>8) % n
	}
	kinds := map[[2]int]int{}
	for range 1500 {
		var code strings.Builder
		for range 1 + next(40) {
			if next(60) == 0 {
				code.WriteString(bytesOf(uint32(next(1 << 24))))
			} else {
				code.WriteString(encoded(t, someIns(t, next)))
			}
		}
		im := api.Image{Code: code.String(), Data: strings.Repeat("data", next(4)), Global: 16 + next(9), Frame: next(65537)}
		im.Entry = 4 * next(len(im.Code)/4)
		input := strings.Repeat("in\xFE", next(4))
		p := &model{beginning(im), im.Code, input}
		m := made(t, im, input)
		n := 0
		for ; n < 300 && !p.ended; n++ {
			p.step()
			steps(t, m, 1)
			if m.Pc() != p.pc || m.End() != p.end || m.Ended() != p.ended || m.regs != p.regs {
				break
			}
		}
		expect(t, "a program", look(t, m), p.state)
		if t.Failed() {
			t.Fatalf("behind step %d of %q from %d on", n, im.Code, im.Entry)
		}
		expectEnd(t, "a program", im, input, 300, p.end)
		kinds[[2]int{p.end.Kind, p.end.Trap}]++
	}
	for _, want := range [][2]int{{api.EndExit, 0}, {api.EndFuel, 0}, {api.EndTrap, api.TrapDivide}, {api.EndTrap, api.TrapBounds}, {api.EndTrap, api.TrapStack}, {api.EndTrap, api.TrapCode}, {api.EndTrap, api.TrapMemory}} {
		if kinds[want] == 0 {
			t.Errorf("no program ends as %v: %v", want, kinds)
		}
	}
}

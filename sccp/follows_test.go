package sccp

import (
	"math/rand"
	"testing"

	"crucible/api"
	. "crucible/brick"
	"crucible/check"
	"crucible/ir"
	"crucible/lower"
	"crucible/sample"
	"crucible/ssa"
)

// watched traps in blocks that are not gone, and where a register is given another value than it is known to have.
func watched(f api.Func, known []api.Known, gone []bool) api.Func {
	f = ir.Copy(f)
	a, b := f.Regs, f.Regs+1
	f.Regs += 2
	for i := range f.Blocks {
		var code, behind []api.Instr
		if !gone[i] {
			behind = []api.Instr{Constant(a, 0), Checked(a, api.TrapBounds)}
		}
		for _, x := range f.Blocks[i].Code {
			if x.Op != api.OpPhi {
				code, behind = append(code, behind...), nil
			}
			code = append(code, x)
			if x.Dst != None && known[x.Dst].Kind == api.KnownOne {
				behind = append(behind, Constant(a, known[x.Dst].Value), Reckoned(b, api.AluEq, a, x.Dst),
					Checked(b, api.TrapBounds))
			}
		}
		f.Blocks[i].Code = append(code, behind...)
	}
	return f
}

// expectMeaning holds runs of a program to runs of it with its functions folded (Sc2), and watched (Sc3).
func expectMeaning(t *testing.T, r *rand.Rand, p api.Program) api.End {
	t.Helper()
	folded, watchful := p, p
	for i, f := range p.Funcs {
		known, gone := found(t, p, f)
		watchful = With(watchful, i, watched(f, known, gone))
		folded = With(folded, i, foldedOf(t, p, f))
	}
	input := make([]byte, r.Intn(8))
	r.Read(input)
	how := Run{Input: string(input), Fuel: 1 + r.Intn(2000), Deep: 1 + r.Intn(8)}
	if _, unlike := Unlike(p, watchful, how, 4*how.Fuel); unlike {
		t.Fatalf("something known is not so, of %+v", p)
	}
	if _, unlike := Unlike(p, folded, how, r.Intn(how.Fuel)); unlike {
		t.Fatalf("another thing comes of it: %+v, %+v", p, folded)
	}
	end, unlike := Unlike(p, folded, how, how.Fuel)
	if unlike {
		t.Fatalf("another thing comes of it: %+v, %+v", p, folded)
	}
	return end
}

// Sc2, Sc3: of random programs.
func TestMeaning(t *testing.T) {
	r := rand.New(rand.NewSource(32))
	ends, put := make([]int, 4), 0
	for i := range 12000 {
		s := constants
		if i%2 == 0 {
			s = Shape{Blocks: 2 + r.Intn(8), Regs: 2 + r.Intn(8), Phis: 3, Code: 6, Constants: r.Intn(10)}
		}
		e := expectMeaning(t, r, inForm(t, r, s))
		ends[e.Kind]++
		put += len(e.Out)
	}
	if put < 20000 || min(ends[api.EndExit], ends[api.EndTrap], ends[api.EndFuel]) < 500 {
		t.Errorf("%d bytes, ends %v: the test says little", put, ends)
	}
}

// Sc1 to Sc3: of sources.
func TestSources(t *testing.T) {
	less, put := 0, 0
	for seed := range int64(150) {
		r := rand.New(rand.NewSource(seed))
		c, _, ok := check.Source(sample.Source(r.Intn))
		if !ok {
			continue
		}
		p, e := lower.Lower(c)
		if e != api.OK {
			t.Fatalf("Lower: error %d", e)
		}
		q, e := ssa.Whole(p)
		if e != api.OK {
			t.Fatalf("Whole: error %d", e)
		}
		for _, f := range q.Funcs {
			if len(f.Blocks)*f.Regs < 10000 {
				expectModel(t, q, f)
			}
			less += CodeSize(f) - CodeSize(foldedOf(t, q, f))
		}
		put += len(expectMeaning(t, r, q).Out)
	}
	if less < 500 || put < 500 {
		t.Errorf("%d instructions less, %d bytes: the test says little", less, put)
	}
}

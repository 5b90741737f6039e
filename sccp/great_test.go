package sccp

import (
	"math/rand"
	"testing"
	"time"

	"crucible/api"
	. "crucible/brick"
	"crucible/ir"
	"crucible/ssa"
)

// inTime asks that something ends, soon.
func inTime(t *testing.T, what string, call func()) {
	t.Helper()
	begin := time.Now()
	call()
	if d := time.Since(begin); d > time.Minute {
		t.Errorf("%s: %v", what, d)
	}
}

// Sc1, Sc2: as many registers as may be, each reckoned from the former one.
func TestRow(t *testing.T) {
	f := Function(0, api.MaxRegs, Give(api.MaxRegs-1, Constant(0, 1)))
	b := &f.Blocks[0]
	for r := 1; r < api.MaxRegs; r++ {
		b.Code = append(b.Code, Reckoned(r, api.AluAdd, r-1, 0))
	}
	inTime(t, "a row", func() {
		known, _ := found(t, ProgramOf(f), f)
		for r, k := range known {
			if k != one(int32(r+1)) {
				t.Fatalf("%d is %v", r, k)
			}
		}
		foldedOf(t, ProgramOf(f), f)
	})
}

// Sc1, Sc2: as many blocks as may be; each one's end is known, and knows what the former ones told.
func TestManyBranches(t *testing.T) {
	f := Function(0, api.MaxBlocks, Branch(0, 1, api.MaxBlocks-1, Constant(0, 1)))
	for i := 1; i < api.MaxBlocks-1; i++ {
		f.Blocks = append(f.Blocks, Branch(i, i+1, api.MaxBlocks-1, Reckoned(i, api.AluMul, i-1, 0)))
	}
	f.Blocks = append(f.Blocks, Give(0))
	inTime(t, "branches", func() {
		_, gone := found(t, ProgramOf(f), f)
		for i, yes := range gone {
			if !yes {
				t.Fatalf("%d is not gone", i)
			}
		}
		if made := foldedOf(t, ProgramOf(f), f); made.Blocks[7].End != api.EndJump {
			t.Error("a branch is left")
		}
	})
}

// Sc1, Sc2: very many OpPhis of very many edges, which tell one another's values on, the longest way round.
func TestManyPhis(t *testing.T) {
	const ways, phis = 2000, 1500
	f := Function(1, 3+phis, Jump(1, Constant(1, 7), Constant(2, 8)))
	preds := []int{0}
	for i := range ways {
		preds = append(preds, i+1)
	}
	head := Branch(0, 2, 2)
	for i := range phis {
		args := []int{1}
		for range ways {
			args = append(args, 3+max(0, i-1))
		}
		if i == 0 {
			args[ways] = 2
		}
		head.Code = append(head.Code, Phi(3+i, preds, args))
	}
	f.Blocks = append(f.Blocks, head)
	f.Blocks[1].To = []int{1, 2}
	for i := range ways - 1 {
		f.Blocks = append(f.Blocks, Branch(0, 1, i+3))
	}
	f.Blocks = append(f.Blocks, Give(2+phis))
	p := ProgramOf(Function(0, 0, Give(None)), f)
	if !ssa.InForm(p, f) {
		t.Fatal("it is not in form")
	}
	inTime(t, "OpPhis", func() {
		known, _ := found(t, p, f)
		for i := range phis {
			if known[3+i] != many {
				t.Fatalf("%d is %v", i, known[3+i])
			}
		}
		foldedOf(t, p, f)
		// With one value alone all of them are that.
		f.Blocks[0].Code[1].Imm = 7
		known, _ = found(t, p, f)
		for i := range phis {
			if known[3+i] != one(7) {
				t.Fatalf("%d is %v", i, known[3+i])
			}
		}
		if made := foldedOf(t, p, f); len(made.Blocks[1].Code) != phis || made.Blocks[1].Code[0].Op != api.OpConst {
			t.Error("OpPhis are left")
		}
	})
}

// R1: great ones by chance.
func TestGreatByChance(t *testing.T) {
	r := rand.New(rand.NewSource(35))
	shapes := []Shape{
		{Blocks: 2000, Regs: 30, Phis: 2, Code: 8, Constants: 10},
		{Blocks: 400, Regs: 100, Phis: 4, Code: 60, Constants: 30},
		{Blocks: 30, Regs: 2000, Phis: 10, Code: 900, Constants: 5},
	}
	for _, s := range shapes {
		p := Random(r.Intn, s)
		f, e := ssa.Make(p, p.Funcs[0])
		if e != api.OK {
			continue
		}
		if ir.CheckFunc(p, f) != api.OK {
			t.Fatal("it may not be")
		}
		inTime(t, "by chance", func() {
			if len(f.Blocks)*len(f.Blocks) < 1e6 {
				expectModel(t, p, f)
			}
			foldedOf(t, p, f)
		})
	}
}

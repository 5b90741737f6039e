package live

import (
	"math/rand"
	"slices"
	"testing"
	"time"

	"crucible/api"
	"crucible/ir"
)

// inTime asks that something ends, soon.
func inTime(t *testing.T, what string, call func()) {
	t.Helper()
	begin := time.Now()
	call()
	if d := time.Since(begin); d > time.Minute {
		t.Errorf("%s: %v", what, d)
	}
}

// Lv1: a row of blocks through which one goes to and fro, numbered by chance: what one needs is live in all.
func TestToAndFro(t *testing.T) {
	r := rand.New(rand.NewSource(26))
	for _, size := range [][2]int{{api.MaxBlocks, 3000}, {200, api.MaxRegs}} {
		blocks, regs := size[0], size[1]
		f := toAndFro(r, blocks, regs)
		inTime(t, "to and fro", func() {
			in, out := liveOf(t, programOf(f), f)
			for i := range blocks {
				if len(in[i]) != regs || len(out[i]) != regs {
					t.Fatalf("%v: %d, %d are live in block %d", size, len(in[i]), len(out[i]), i)
				}
			}
		})
	}
}

// toAndFro has all registers put, each by one block.
func toAndFro(r *rand.Rand, blocks, regs int) api.Func {
	number := []int{0}
	for _, n := range r.Perm(blocks - 1) {
		number = append(number, n+1)
	}
	f := function(0, regs, make([]api.Block, blocks)...)
	for i, n := range number {
		f.Blocks[n] = branch(0, number[max(1, i-1)], number[min(blocks-1, i+1)])
	}
	for i := range regs {
		b := &f.Blocks[number[1+i%(blocks-1)]]
		b.Code = append(b.Code, put(i))
	}
	return f
}

// Lv2: all clash with all.
func TestAllClash(t *testing.T) {
	const regs = 4000
	f := function(0, regs, give(none))
	b := &f.Blocks[0]
	for r := range regs {
		b.Code = append(b.Code, got(r))
	}
	for r := range regs {
		b.Code = append(b.Code, put(r))
	}
	inTime(t, "all clash", func() {
		for r, l := range clashOf(t, programOf(f), f) {
			if !slices.Equal(l, slices.Delete(upTo(0, regs-1), r, r+1)) {
				t.Fatalf("%d clashes with %d", r, len(l))
			}
		}
	})
}

// Lv2: registers that are defined very often, where very many are live.
func TestDefinedOften(t *testing.T) {
	const often, many = 20000, 40000
	f := function(0, api.MaxRegs, give(none))
	b := &f.Blocks[0]
	for i := range often {
		b.Code = append(b.Code, got(many+i%3))
	}
	for r := range many {
		b.Code = append(b.Code, put(r))
	}
	inTime(t, "often", func() {
		for r, l := range clashOf(t, programOf(f), f) {
			want := []int(nil)
			if r < many {
				want = upTo(many, many+2)
			} else if r < many+3 {
				want = upTo(0, many-1)
			}
			if !slices.Equal(l, want) {
				t.Fatalf("%d clashes with %d", r, len(l))
			}
		}
	})
}

// Lv1, Lv2: as many registers as may be, each of which is needed for a while.
func TestRow(t *testing.T) {
	const far = 5
	f := function(0, api.MaxRegs, give(none))
	b := &f.Blocks[0]
	for r := range api.MaxRegs {
		b.Code = append(b.Code, reckoned(r, api.AluAdd, max(0, r-1), max(0, r-far)))
	}
	inTime(t, "a row", func() {
		in, out := liveOf(t, programOf(f), f)
		if !sameLists(in, [][]int{{0}}) || !sameLists(out, [][]int{nil}) {
			t.Fatalf("%v, %v", in, out)
		}
		// The last ones are needed by nobody.
		for r, l := range clashOf(t, programOf(f), f)[:api.MaxRegs-far] {
			want := append(upTo(max(0, r-far+1), r-1), upTo(r+1, r+far-1)...)
			if !slices.Equal(l, want) {
				t.Fatalf("%d clashes with %v, not %v", r, l, want)
			}
		}
	})
}

// Lv1: very many OpPhis, of very many ways.
func TestManyPhis(t *testing.T) {
	const ways, phis = 1000, 1000
	f := function(0, 2*phis, jump(1))
	for i := 1; i < ways; i++ {
		f.Blocks = append(f.Blocks, branch(0, i+1, ways+1, got(0)))
	}
	f.Blocks = append(f.Blocks, jump(ways+1))
	last := give(none)
	for i := range phis {
		last.Code = append(last.Code, phi(phis+i, upTo(1, ways), slices.Repeat([]int{i}, ways)))
	}
	f.Blocks = append(f.Blocks, last)
	inTime(t, "OpPhis", func() {
		in, out := liveOf(t, programOf(f), f)
		for i := 1; i <= ways; i++ {
			if len(out[i]) != phis || i < ways && len(in[i]) != phis-1 {
				t.Fatalf("%d, %d are live in block %d", len(in[i]), len(out[i]), i)
			}
		}
		if len(in[ways+1]) > 0 {
			t.Fatalf("%v", in[ways+1])
		}
		clashOf(t, programOf(f), f)
	})
}

// R1: as great as may be, by chance; of some places and pairs the model is asked.
func TestGreatByChance(t *testing.T) {
	r := rand.New(rand.NewSource(27))
	for _, registers := range []int{40, 1500, 4000} {
		f := tangle(r, api.MaxBlocks, registers)
		p := programOf(f, function(0, 1, give(0)))
		if ir.CheckFunc(p, f) != api.OK {
			t.Fatal("it may not be")
		}
		inTime(t, "by chance", func() {
			in, out := liveOf(t, p, f)
			clashes := clashOf(t, p, f)
			for range 200 {
				block, a, b := r.Intn(len(f.Blocks)), r.Intn(registers), r.Intn(registers)
				_, isIn := slices.BinarySearch(in[block], a)
				_, isOut := slices.BinarySearch(out[block], a)
				_, clash := slices.BinarySearch(clashes[a], b)
				if isIn != isLive(f, a, beginOf(f, block)) || isOut != isLive(f, a, endOf(f, block)) {
					t.Fatalf("%d in block %d: %v, %v", a, block, isIn, isOut)
				}
				if clash != (a != b && (isMet(f, a, b) || isMet(f, b, a))) {
					t.Fatalf("%d and %d: %v", a, b, clash)
				}
			}
		})
	}
}

// tangle is a function of as many instructions as may be, with ways by chance.
func tangle(r *rand.Rand, blocks, registers int) api.Func {
	f := function(3, registers, jump(1))
	for i := 1; i < blocks-1; i++ {
		f.Blocks = append(f.Blocks, branch(r.Intn(registers), i+1, 1+r.Intn(blocks-1)))
	}
	f.Blocks = append(f.Blocks, give(r.Intn(registers)))
	p := programOf(f, function(0, 1, give(0)))
	for i, preds := range ir.Preds(f) {
		b := &f.Blocks[i]
		for range r.Intn(3) {
			args := make([]int, len(preds))
			for j := range args {
				args[j] = r.Intn(registers)
			}
			b.Code = append(b.Code, phi(r.Intn(registers), preds, args))
		}
		for len(b.Code) < api.MaxCode/blocks {
			b.Code = append(b.Code, randomInstr(r, p, f))
		}
	}
	return f
}

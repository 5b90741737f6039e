package live

import (
	"math/rand"
	"slices"
	"testing"

	"crucible/api"
	"crucible/ir"
)

// place is one ahead of an instruction of a block, or of its end.
type place struct{ block, next int }

// beginOf is a block's beginning: behind its OpPhis.
func beginOf(f api.Func, block int) place {
	next := slices.IndexFunc(f.Blocks[block].Code, func(x api.Instr) bool { return x.Op != api.OpPhi })
	if next < 0 {
		next = len(f.Blocks[block].Code)
	}
	return place{block, next}
}

func endOf(f api.Func, block int) place { return place{block, len(f.Blocks[block].Code)} }

// isLive is the chapter's words again: whether a way leads from a place to a use without a definition ahead of it.
func isLive(f api.Func, register int, at place) bool {
	seen := make([]bool, len(f.Blocks))
	for waiting := []place{at}; len(waiting) > 0; {
		at, waiting = waiting[0], waiting[1:]
		used, defined := metFrom(f, register, at)
		if used {
			return true
		}
		if defined {
			continue
		}
		for _, to := range f.Blocks[at.block].To {
			if !seen[to] && !definedByPhi(f, register, to) {
				waiting = append(waiting, beginOf(f, to))
			}
			seen[to] = true
		}
	}
	return false
}

// metFrom tells what a way from a place to the end of its block meets first, if anything.
func metFrom(f api.Func, register int, at place) (used, defined bool) {
	b := f.Blocks[at.block]
	for _, x := range b.Code[at.next:] {
		if slices.Contains(x.Args, register) {
			return true, false
		}
		if x.Dst == register {
			return false, true
		}
	}
	return b.End != api.EndJump && b.Arg == register || usedByPhi(f, register, at.block), false
}

func usedByPhi(f api.Func, register, from int) bool {
	for _, to := range f.Blocks[from].To {
		for _, x := range f.Blocks[to].Code {
			i := slices.Index(x.Pred, from)
			if i >= 0 && x.Args[i] == register {
				return true
			}
		}
	}
	return false
}

func definedByPhi(f api.Func, register, block int) bool {
	return slices.ContainsFunc(f.Blocks[block].Code, func(x api.Instr) bool {
		return x.Op == api.OpPhi && x.Dst == register
	})
}

func modelLive(f api.Func) (in, out [][]int) {
	in, out = make([][]int, len(f.Blocks)), make([][]int, len(f.Blocks))
	for i := range f.Blocks {
		for r := range f.Regs {
			if isLive(f, r, beginOf(f, i)) {
				in[i] = append(in[i], r)
			}
			if isLive(f, r, endOf(f, i)) {
				out[i] = append(out[i], r)
			}
		}
	}
	return in, out
}

// isMet tells whether a register is defined where another one is live.
func isMet(f api.Func, register, other int) bool {
	if register < f.Params && isLive(f, other, beginOf(f, 0)) {
		return true
	}
	for i, reached := range ir.Reached(f) {
		for j, x := range f.Blocks[i].Code {
			if !reached || x.Dst != register {
				continue
			}
			behind := place{i, j + 1}
			if x.Op == api.OpPhi {
				behind = beginOf(f, i)
			}
			if x.Op == api.OpCopy && x.Args[0] == other {
				continue
			}
			if isLive(f, other, behind) {
				return true
			}
		}
	}
	return false
}

func modelClash(f api.Func) [][]int {
	l := make([][]int, f.Regs)
	for a := range f.Regs {
		for b := range f.Regs {
			if a != b && (isMet(f, a, b) || isMet(f, b, a)) {
				l[a] = append(l[a], b)
			}
		}
	}
	return l
}

// expectModel holds what is told of a function against the model.
func expectModel(t *testing.T, p api.Program, f api.Func) (clashing int) {
	t.Helper()
	in, out := liveOf(t, p, f)
	wantIn, wantOut := modelLive(f)
	if !sameLists(in, wantIn) || !sameLists(out, wantOut) {
		t.Fatalf("Live: %v, %v, not %v, %v, of %+v", in, out, wantIn, wantOut, f)
	}
	l := clashOf(t, p, f)
	if want := modelClash(f); !sameLists(l, want) {
		t.Fatalf("Clash: %v, not %v, of %+v", l, want, f)
	}
	for _, others := range l {
		clashing += len(others)
	}
	return clashing
}

// Lv1, Lv2: of random functions.
func TestRandom(t *testing.T) {
	r := rand.New(rand.NewSource(20))
	pairs, clashing := 0, 0
	for range 6000 {
		p := randomProgram(r, shape{1 + r.Intn(8), 1 + r.Intn(8), 1 + r.Intn(4), 1 + r.Intn(6)})
		for _, f := range p.Funcs {
			clashing += expectModel(t, p, f)
			pairs += f.Regs * (f.Regs - 1)
		}
	}
	if clashing < pairs/4 || clashing > pairs*3/4 {
		t.Errorf("%d of %d clash: the test says little", clashing, pairs)
	}
}

// Lv1, Lv2: registers of any numbers, also where there are very many of them.
func TestRandomNumbers(t *testing.T) {
	r := rand.New(rand.NewSource(21))
	for range 150 {
		p := randomProgram(r, small)
		f := p.Funcs[len(p.Funcs)-1]
		regs := []int{width - 1, width, width + 1, 2*width + 7, 5000, api.MaxRegs}[r.Intn(6)]
		names := someOf(r, f.Params, f.Regs, regs)
		g := renamed(f, func(register int) int { return names[register] })
		g.Regs = regs
		wantIn, wantOut := modelLive(f)
		in, out := liveOf(t, p, g)
		if !sameLists(in, namedLists(wantIn, names)) || !sameLists(out, namedLists(wantOut, names)) {
			t.Fatalf("Live: %v, %v of %v, %+v", in, out, names, f)
		}
		clashes := clashOf(t, p, g)
		for r, l := range namedLists(modelClash(f), names) {
			if !slices.Equal(clashes[names[r]], l) {
				t.Fatalf("Clash: %v of %v, %+v", clashes[names[r]], names, f)
			}
			clashes[names[r]] = nil
		}
		if slices.ContainsFunc(clashes, func(l []int) bool { return len(l) > 0 }) {
			t.Fatalf("Clash of what is not used, of %v, %+v", names, f)
		}
	}
}

// someOf is so many numbers below regs: 0 to params-1, and others by chance, not in order; often those at an edge.
func someOf(r *rand.Rand, params, count, regs int) []int {
	names := upTo(0, params-1)
	edges := []int{width - 1, width, width + 1, 2*width - 1, 2 * width, regs - 1, params}
	for len(names) < count {
		n := r.Intn(regs)
		if r.Intn(2) == 0 {
			n = edges[r.Intn(len(edges))]
		}
		if n >= params && n < regs && !slices.Contains(names, n) {
			names = append(names, n)
		}
	}
	return names
}

func namedLists(lists [][]int, names []int) [][]int {
	var named [][]int
	for _, l := range lists {
		var m []int
		for _, n := range l {
			m = append(m, names[n])
		}
		slices.Sort(m)
		named = append(named, m)
	}
	return named
}

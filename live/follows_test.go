package live

import (
	"math/rand"
	"slices"
	"testing"

	"crucible/api"
	"crucible/check"
	"crucible/irrun"
	"crucible/lower"
	"crucible/sample"
	"crucible/ssa"
)

// Lv3: what is live at a block's end is needed by a successor, or one of its OpPhis, or by the end itself.
func expectNeeded(t *testing.T, f api.Func, in, out [][]int) {
	t.Helper()
	for i, l := range out {
		needed := []int{}
		if f.Blocks[i].End != api.EndJump {
			needed = append(needed, f.Blocks[i].Arg)
		}
		for _, to := range f.Blocks[i].To {
			needed = append(needed, in[to]...)
		}
		for _, r := range l {
			if !slices.Contains(needed, r) && !usedByPhi(f, r, i) {
				t.Fatalf("%d is live at the end of %d: %+v", r, i, f)
			}
		}
		if !slices.IsSorted(l) || !slices.IsSorted(in[i]) {
			t.Fatalf("not rising: %v, %v", in[i], l)
		}
	}
}

// Lv3: both ways.
func expectBothWays(t *testing.T, clashes [][]int) {
	t.Helper()
	for r, l := range clashes {
		for i, other := range l {
			if other == r || i > 0 && l[i-1] >= other {
				t.Fatalf("%d clashes with %v", r, l)
			}
			if !slices.Contains(clashes[other], r) {
				t.Fatalf("%d clashes with %d, but not the other way", r, other)
			}
		}
	}
}

func TestFollows(t *testing.T) {
	r := rand.New(rand.NewSource(22))
	for range 3000 {
		p := randomProgram(r, small)
		for _, f := range p.Funcs {
			in, out := liveOf(t, p, f)
			expectNeeded(t, f, in, out)
			expectBothWays(t, clashOf(t, p, f))
		}
	}
}

// joined is a function in which registers share places as far as they do not clash, and how many of them do.
func joined(r *rand.Rand, f api.Func, clashes [][]int) (api.Func, int) {
	place := upTo(0, f.Regs-1)
	joined := 0
	for _, i := range r.Perm(f.Regs) {
		// A parameter can't move, but others can be where it is.
		if i < f.Params {
			continue
		}
		for _, to := range r.Perm(f.Regs) {
			if to == i || place[to] != to || slices.Contains(place[:i], i) || slices.Contains(place[i+1:], i) {
				continue
			}
			free := true
			for other, at := range place {
				free = free && (at != to || !slices.Contains(clashes[i], other))
			}
			if free {
				place[i] = to
				joined++
				break
			}
		}
	}
	return renamed(f, func(register int) int { return place[register] }), joined
}

// expectJoinable holds runs of a program to runs of it with registers that share places.
func expectJoinable(t *testing.T, r *rand.Rand, p api.Program) (api.End, int) {
	t.Helper()
	q, all := p, 0
	q.Funcs = slices.Clone(p.Funcs)
	for i, f := range p.Funcs {
		g, n := joined(r, f, clashOf(t, p, f))
		q.Funcs[i] = g
		all += n
	}
	input := make([]byte, r.Intn(8))
	r.Read(input)
	fuel := 1 + r.Intn(2000)
	want, got := irrun.Run(p, string(input), fuel, 8), irrun.Run(q, string(input), fuel, 8)
	if want != got {
		t.Fatalf("%+v, then %+v: %+v, %+v", want, got, p, q)
	}
	return want, all
}

// Lv2: registers that do not clash can share a place: runs are the same.
func TestSharedPlaces(t *testing.T) {
	r := rand.New(rand.NewSource(23))
	shared, put, ends := 0, 0, make([]int, 4)
	for range 20000 {
		p := randomProgram(r, shape{2 + r.Intn(8), 2 + r.Intn(12), 3, 6})
		e, n := expectJoinable(t, r, p)
		ends[e.Kind]++
		shared += n
		put += len(e.Out)
	}
	if shared < 40000 || put < 40000 || min(ends[api.EndExit], ends[api.EndTrap], ends[api.EndFuel]) < 1000 {
		t.Errorf("%d share, %d bytes, ends %v: the test says little", shared, put, ends)
	}
}

// Lv1 to Lv3: of sources, and of these in form.
func TestSources(t *testing.T) {
	functions, shared := 0, 0
	for seed := range int64(60) {
		r := rand.New(rand.NewSource(seed))
		c, _, ok := check.Source(sample.Source(r.Intn))
		if !ok {
			continue
		}
		p, e := lower.Lower(c)
		if e != api.OK {
			t.Fatalf("Lower: error %d", e)
		}
		q, e := ssa.Whole(p)
		if e != api.OK {
			t.Fatalf("Whole: error %d", e)
		}
		for _, p := range []api.Program{p, q} {
			for _, f := range p.Funcs {
				in, out := liveOf(t, p, f)
				expectNeeded(t, f, in, out)
				expectBothWays(t, clashOf(t, p, f))
				if len(f.Blocks)*f.Regs < 3000 {
					functions++
					expectModel(t, p, f)
				}
			}
			_, n := expectJoinable(t, r, p)
			shared += n
		}
	}
	if functions < 60 || shared < 1000 {
		t.Errorf("%d functions, %d share: the test says little", functions, shared)
	}
}

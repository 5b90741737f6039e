package ssa

import (
	"math/rand"
	"slices"
	"strings"
	"testing"

	"crucible/api"
	"crucible/check"
	"crucible/ir"
	"crucible/irrun"
	"crucible/lower"
	"crucible/sample"
)

// The document's example: the header has an OpPhi of two.
func TestExample(t *testing.T) {
	f := function(0, 4, jump(1, constant(0, 1), constant(1, 5), constant(2, 1)),
		branch(3, 2, 3, reckoned(3, api.AluLt, 0, 1)),
		jump(1, reckoned(0, api.AluAdd, 0, 2)),
		give(0))
	p := programOf(f)
	made := formOf(t, p, f)
	header := made.Blocks[1].Code
	if countOf(made, api.OpPhi) != 1 || header[0].Op != api.OpPhi || !slices.Equal(header[0].Pred, []int{0, 2}) {
		t.Errorf("%+v", made)
	}
	if e := irrun.Run(wholeOf(t, p), "", 1000, 5); e != (api.End{Kind: api.EndExit, Code: 5}) {
		t.Errorf("%+v", e)
	}
}

// Ss2, of what forms can go wrong at; phis is how many OpPhis it needs, so that none is where nothing meets.
func TestMeaning(t *testing.T) {
	in := func(f api.Func) api.Func {
		f.Blocks[0].Code = append([]api.Instr{got(0), got(1)}, f.Blocks[0].Code...)
		return f
	}
	both := []int{1, 2}
	tests := []struct {
		name string
		f    api.Func
		phis int
	}{
		{"never given", function(0, 3, give(2, put(0), put(1))), 0},
		{"given on one way", in(function(0, 3, branch(0, 1, 2), jump(2, constant(2, 'x')), give(2, put(2)))), 1},
		{"given on no way", in(function(0, 3, branch(0, 1, 2), jump(3), jump(3), give(2, put(2)))), 0},
		{"given on both, used on none", in(function(0, 3, branch(0, 1, 2), jump(3, constant(2, 1)), jump(3, constant(2, 2)),
			give(1))), 0},
		{"given on both, then anew", in(function(0, 3, branch(0, 1, 2), jump(3, constant(2, 1)), jump(3, constant(2, 2)),
			give(2, constant(2, 3), put(2)))), 0},
		{"both ways to one block", in(function(0, 3, branch(0, 1, 1, constant(2, 'a')), give(2, put(2), copied(2, 1)))), 0},
		{"both ways to one that chooses", in(function(0, 3, branch(0, 1, 1), give(2, phi(2, []int{0}, []int{1}), put(2)))),
			1},
		{"given to itself", in(function(0, 2, give(0, reckoned(0, api.AluAdd, 0, 0), reckoned(0, api.AluAdd, 0, 1)))), 0},
		{"OpPhis change places", in(function(0, 6, jump(1, constant(2, 5), constant(3, 1)),
			branch(2, 1, 2, phi(0, []int{0, 1}, []int{0, 1}), phi(1, []int{0, 1}, []int{1, 0}), put(0), put(1),
				reckoned(2, api.AluSub, 2, 3)),
			give(1))), 3},
		{"OpPhis of one register", in(function(0, 4, branch(0, 1, 2), jump(3), jump(3),
			give(2, phi(2, both, []int{0, 1}), phi(3, both, []int{2, 2}), phi(2, both, []int{1, 0}), put(2), put(3)))), 3},
		{"OpPhis of what they give", in(function(0, 4, branch(0, 1, 2, constant(2, 'p'), constant(3, 'q')), jump(3), jump(3),
			give(2, phi(3, both, []int{2, 1}), phi(2, both, []int{3, 0}), put(2), put(3)))), 2},
		{"OpPhis of block 0", function(0, 2, give(1, phi(0, nil, nil), phi(0, nil, nil), put(0), copied(1, 0))), 2},
		{"OpPhis of block 0, and what was never given", function(0, 2, give(1, phi(0, nil, nil), put(1), put(0))), 1},
		{"an OpPhi of a way that is not gone", in(function(0, 3, jump(3), jump(3), give(-1),
			give(2, phi(2, []int{0, 1}, []int{0, 1}), put(2)))), 1},
		{"values meet at a way that is not gone", in(function(0, 3, jump(2, constant(2, 'g')), jump(2, constant(2, 'n')),
			give(2, put(2)))), 0},
		{"a loop around itself", in(function(0, 3, jump(1, constant(2, 1)),
			branch(0, 1, 2, put(0), reckoned(0, api.AluSub, 0, 2)), give(0))), 1},
		{"a loop that gives first", in(function(0, 4, jump(1, constant(2, 1)),
			branch(0, 1, 2, copied(3, 0), put(3), reckoned(0, api.AluSub, 0, 2)), give(3))), 1},
		{"a loop within a loop", in(function(0, 5, jump(1, constant(2, 1)),
			branch(0, 2, 4, put(0), copied(3, 1)),
			branch(3, 3, 1, put(3), reckoned(0, api.AluSub, 0, 2)),
			jump(2, reckoned(3, api.AluSub, 3, 2)),
			give(3))), 3},
		{"two begins", in(function(0, 4, branch(1, 1, 2, constant(2, 1), constant(3, 9)),
			branch(0, 2, 3, put(0), reckoned(0, api.AluSub, 0, 2)),
			branch(0, 1, 3, put(0), reckoned(0, api.AluSub, 0, 2), copied(3, 0)),
			give(3))), 4},
	}
	for _, x := range tests {
		p := programOf(x.f)
		if n := countOf(formOf(t, p, x.f), api.OpPhi); n != x.phis {
			t.Errorf("%s: %d OpPhis, not %d", x.name, n, x.phis)
		}
		for _, input := range []string{"", "\x00\x00", "\x00\x03", "\x04\x00", "\x03\x02", "\x02\x05"} {
			expectSame(t, p, wholeOf(t, p), input, 2000, 5)
		}
	}
}

// Ss2: parameters that are given values, and calls that call themselves.
func TestParameters(t *testing.T) {
	sum := function(3, 4,
		branch(0, 1, 2, constant(3, 1)),
		jump(2, reckoned(0, api.AluSub, 0, 3), reckoned(1, api.AluAdd, 1, 2), called(1, 1, 0, 2, 1)),
		give(1, reckoned(2, api.AluSub, 2, 2), put(2), put(0)))
	main := function(0, 3, give(2, got(0), got(1), constant(2, 9), called(2, 1, 0, 1, 2)))
	p := programOf(main, sum)
	q := wholeOf(t, p)
	for _, input := range []string{"\x00\x05", "\x01\x05", "\x02\x06", "\x07\x09"} {
		if e := expectSame(t, p, q, input, 1000, 20); e.Kind != api.EndExit {
			t.Errorf("%q: %+v", input, e)
		}
		expectSame(t, p, q, input, 1000, 3)
	}
}

// Ss1: what is in form already is as great in form.
func TestInFormAlready(t *testing.T) {
	r := rand.New(rand.NewSource(4))
	for range 500 {
		p := randomProgram(r, shape{8, 5, 3, 6})
		for _, f := range p.Funcs {
			once := formOf(t, p, f)
			again := formOf(t, p, once)
			if codeSize(again) > codeSize(once) || again.Regs > once.Regs || len(again.Blocks) != len(once.Blocks) {
				t.Fatalf("%+v of %+v", again, once)
			}
		}
	}
}

// Ss1, Ss2 on programs by chance: such as have OpPhis already, blocks that are not reached, and what is never given.
func TestRandomPrograms(t *testing.T) {
	r := rand.New(rand.NewSource(182))
	ends := make([]int, 4)
	traps := make([]int, 6)
	for i := range 6000 {
		s := shape{1 + r.Intn(12), 1 + r.Intn(6), 1 + r.Intn(4), 1 + r.Intn(7)}
		p := randomProgram(r, s)
		q := wholeOf(t, p)
		for range 3 {
			input := "ab\x00\xFFzyx"[:r.Intn(8)]
			e := expectSame(t, p, q, input, 600, 1+r.Intn(12))
			ends[e.Kind]++
			traps[e.Trap]++
		}
		if i%10 == 0 {
			expectBeginnings(t, p, q, r)
		}
	}
	for _, n := range []int{ends[api.EndExit], ends[api.EndFuel], traps[api.TrapDivide], traps[api.TrapBounds],
		traps[api.TrapStack], traps[api.TrapMemory]} {
		if n < 200 {
			t.Errorf("ends %v, traps %v: the test says little", ends, traps)
		}
	}
}

// expectBeginnings holds Ss2 whatever the fuels: of what both put one is a beginning of the other.
func expectBeginnings(t *testing.T, p, q api.Program, r *rand.Rand) {
	t.Helper()
	for range 20 {
		a, b := irrun.Run(p, "abc", r.Intn(200), 8), irrun.Run(q, "abc", r.Intn(600), 8)
		if !strings.HasPrefix(a.Out, b.Out) && !strings.HasPrefix(b.Out, a.Out) {
			t.Fatalf("%q and %q: %+v, %+v", a.Out, b.Out, p, q)
		}
		if a.Kind != api.EndFuel && b.Kind != api.EndFuel && a != b {
			t.Fatalf("%+v and %+v: %+v, %+v", a, b, p, q)
		}
	}
}

// Ss2 on what sources are lowered to.
func TestLoweredPrograms(t *testing.T) {
	tried, ended, phis := 0, 0, 0
	for seed := range int64(500) {
		r := rand.New(rand.NewSource(seed))
		c, _, ok := check.Source(sample.Source(r.Intn))
		if !ok {
			continue
		}
		p, e := lower.Lower(c)
		if e != api.OK {
			t.Fatalf("seed %d: error %d", seed, e)
		}
		q := wholeOf(t, p)
		for _, f := range q.Funcs {
			phis += countOf(f, api.OpPhi)
		}
		for range 3 {
			if e := expectSame(t, p, q, "some input\xff\x00"[:r.Intn(13)], 10000, 1+r.Intn(30)); e.Kind == api.EndExit {
				ended++
			}
		}
		tried++
	}
	if tried < 300 || ended < 300 || phis < 1000 {
		t.Errorf("%d programs, %d ends, %d OpPhis: the test says little", tried, ended, phis)
	}
}

// A function goes by the hub just where its form is too great: what it does there is held against others, too.
func TestGathered(t *testing.T) {
	r := rand.New(rand.NewSource(7))
	for range 3000 {
		p := randomProgram(r, shape{2 + r.Intn(14), 1 + r.Intn(6), 1 + r.Intn(4), 1 + r.Intn(6)})
		q := p
		q.Funcs = slices.Clone(p.Funcs)
		for i, f := range p.Funcs {
			f = onlyReached(f)
			if meetings(f) == 0 {
				continue
			}
			g := gathered(f)
			if ir.CheckFunc(p, g) != api.OK || meetings(g) != 1 {
				t.Fatalf("%+v, of %+v", g, f)
			}
			made, fits := formed(g)
			if !fits || !modelInForm(p, made) {
				t.Fatalf("the form of %+v", g)
			}
			q.Funcs[i] = made
		}
		expectSame(t, p, q, "ab\x00\xFFzyx"[:r.Intn(8)], 600, 1+r.Intn(12))
	}
}

// meetings is in how many blocks ways meet.
func meetings(f api.Func) int {
	n := 0
	for _, preds := range ir.Preds(f) {
		if len(preds) > 1 {
			n++
		}
	}
	return n
}

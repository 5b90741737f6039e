package sccp

import (
	"math"
	"slices"
	"testing"

	"crucible/api"
	. "crucible/brick"
)

type findTest struct {
	name  string
	f     api.Func
	known []api.Known
	gone  []bool
}

func expectFound(t *testing.T, tests []findTest) {
	t.Helper()
	for _, x := range tests {
		p := ProgramOf(x.f, Function(1, 1, Give(0)))
		known, gone := found(t, p, x.f)
		if !slices.Equal(known, x.known) || !slices.Equal(gone, x.gone) {
			t.Errorf("%s: %v, %v", x.name, known, gone)
		}
		// Sc2 holds of all of them.
		foldedOf(t, p, x.f)
	}
}

var unknown = api.Known{}

// Sc1: by instructions.
func TestFindOfInstructions(t *testing.T) {
	sure := []bool{true}
	expectFound(t, []findTest{
		{"no registers", Function(0, 0, Give(None)), nil, sure},
		{"never given a value", Function(0, 2, Give(None)), []api.Known{unknown, unknown}, sure},
		{"parameters", Function(2, 3, Give(0)), []api.Known{many, many, unknown}, sure},
		{"a constant", Function(0, 1, Give(0, Constant(0, -7))), []api.Known{one(-7)}, sure},
		{"a constant of 0", Function(0, 1, Give(0, Constant(0, 0))), []api.Known{one(0)}, sure},
		{"a copy", Function(0, 2, Give(1, Constant(0, 5), Copied(1, 0))), []api.Known{one(5), one(5)}, sure},
		{"a copy of a parameter", Function(1, 2, Give(1, Copied(1, 0))), []api.Known{many, many}, sure},
		{"a sum", Function(0, 3, Give(2, Constant(0, 5), Constant(1, 6), Reckoned(2, api.AluAdd, 0, 1))),
			[]api.Known{one(5), one(6), one(11)}, sure},
		{"one of two", Function(1, 4, Give(2, Constant(1, 0), Reckoned(2, api.AluMul, 0, 1), Reckoned(3, api.AluAnd, 1, 0))),
			[]api.Known{many, one(0), many, many}, sure},
		{"one and the same", Function(1, 2, Give(1, Reckoned(1, api.AluSub, 0, 0))), []api.Known{many, many}, sure},
		{"it traps", Function(0, 4, Give(2, Constant(0, 5), Constant(1, 0), Reckoned(2, api.AluRemU, 0, 1),
			Reckoned(3, api.AluAdd, 2, 0))), []api.Known{one(5), one(0), many, many}, sure},
		{"it does not", Function(0, 3, Give(2, Constant(0, 5), Constant(1, 0), Reckoned(2, api.AluDiv, 1, 0))),
			[]api.Known{one(5), one(0), one(0)}, sure},
		{"an OpPhi of none", Function(0, 1, Give(0, Phi(0, nil, nil))), []api.Known{one(0)}, sure},
		{"a global's address", Function(0, 1, Give(0, GlobalAt(0, 0))), []api.Known{many}, sure},
		{"a slot's address", Function(0, 1, Give(0, SlotAt(0, 0))), []api.Known{many}, sure},
		{"what is loaded", Function(0, 2, Give(1, Constant(0, 1<<24), Loaded(1, 0, 4))), []api.Known{one(1 << 24), many}, sure},
		{"what is stored", Function(0, 1, Give(0, Constant(0, 1<<24), Stored(0, 0, 1))), []api.Known{one(1 << 24)}, sure},
		{"what is told", Function(0, 2, Give(1, Constant(0, 1), Called(1, 1, 0))), []api.Known{one(1), many}, sure},
		{"told to nobody", Function(0, 1, Give(0, Constant(0, 1), Called(None, 1, 0))), []api.Known{one(1)}, sure},
		{"what is got", Function(0, 1, Give(0, Got(0))), []api.Known{many}, sure},
		{"what is put", Function(0, 1, Give(0, Constant(0, 65), Put(0))), []api.Known{one(65)}, sure},
		{"behind a trap", Function(0, 2, Give(1, Constant(0, 0), Checked(0, api.TrapBounds), Constant(1, 3))),
			[]api.Known{one(0), one(3)}, sure},
	})
}

// Sc1: words wrap round, with sign and without.
func TestFindOfWords(t *testing.T) {
	const least = math.MinInt32
	tests := []struct {
		alu        int
		a, b, want int32
	}{
		{api.AluAdd, math.MaxInt32, 1, least}, {api.AluSub, least, 1, math.MaxInt32}, {api.AluMul, 1 << 16, 1 << 16, 0},
		{api.AluDiv, least, -1, least}, {api.AluDivU, -1, 2, math.MaxInt32}, {api.AluRem, -7, 2, -1},
		{api.AluRemU, -7, 2, 1}, {api.AluAnd, 12, 10, 8}, {api.AluOr, 12, 10, 14}, {api.AluXor, 12, 10, 6},
		{api.AluShl, 1, 31, least}, {api.AluShr, -1, 31, 1}, {api.AluSar, -1, 31, -1}, {api.AluEq, 3, 3, 1},
		{api.AluNe, 3, 3, 0}, {api.AluLt, -1, 0, 1}, {api.AluLtU, -1, 0, 0}, {api.AluLe, 0, -1, 0}, {api.AluLeU, 0, -1, 1},
	}
	for _, x := range tests {
		f := Function(0, 3, Give(2, Constant(0, x.a), Constant(1, x.b), Reckoned(2, x.alu, 0, 1)))
		if known, _ := found(t, ProgramOf(f), f); known[2] != one(x.want) {
			t.Errorf("%d: %d, %d: %v, not %d", x.alu, x.a, x.b, known[2], x.want)
		}
	}
}

// Sc1: by ways.
func TestFindOfWays(t *testing.T) {
	chosen := func(test ...api.Instr) api.Func {
		return Function(1, 5, Branch(1, 1, 2, test...), Jump(3, Constant(2, 20)), Jump(3, Constant(3, 30)),
			Give(4, Phi(4, []int{1, 2}, []int{2, 3})))
	}
	expectFound(t, []findTest{
		{"what is not 0", chosen(Constant(1, -1)), []api.Known{many, one(-1), one(20), unknown, one(20)},
			[]bool{true, true, false, true}},
		{"what is 0", chosen(Constant(1, 0)), []api.Known{many, one(0), unknown, one(30), one(30)},
			[]bool{true, false, true, true}},
		{"what may be either", chosen(Copied(1, 0)), []api.Known{many, many, one(20), one(30), many},
			[]bool{true, true, true, true}},
		{"both ways are one", Function(0, 2, Branch(0, 1, 1, Constant(0, 0)), Give(1, Phi(1, []int{0}, []int{0}))),
			[]api.Known{one(0), one(0)}, []bool{true, true}},
		{"both ways are one, of a parameter", Function(1, 2, Branch(0, 1, 1), Give(1, Phi(1, []int{0}, []int{0}))),
			[]api.Known{many, many}, []bool{true, true}},
		{"a way from what is not gone", Function(0, 2, Branch(0, 1, 2, Constant(0, 1)), Give(0), Jump(1, Constant(1, 4))),
			[]api.Known{one(1), unknown}, []bool{true, true, false}},
		{"a loop that is not gone", Function(0, 3, Branch(0, 1, 2, Constant(0, 1)), Give(0),
			Branch(2, 2, 1, Phi(1, []int{0, 2}, []int{0, 2}), Got(2))),
			[]api.Known{one(1), unknown, unknown}, []bool{true, true, false}},
		{"the same both ways", Function(1, 4, Branch(0, 1, 2), Jump(3, Constant(1, 7)), Jump(3, Constant(2, 7)),
			Give(3, Phi(3, []int{1, 2}, []int{1, 2}))),
			[]api.Known{many, one(7), one(7), one(7)}, []bool{true, true, true, true}},
		{"a parameter one way", Function(1, 3, Branch(0, 1, 2), Jump(3, Constant(1, 7)), Jump(3),
			Give(2, Phi(2, []int{1, 2}, []int{1, 0}))),
			[]api.Known{many, one(7), many}, []bool{true, true, true, true}},
	})
}

// Sc1: what is known around loops is what holds if nothing speaks against it.
func TestFindAroundLoops(t *testing.T) {
	from := []int{0, 2}
	loop := func(regs int, back api.Block, phis ...api.Instr) api.Func {
		return Function(1, regs, Jump(1, Constant(1, 1), Constant(2, 2)), Branch(0, 2, 3, phis...), back, Give(3))
	}
	sure := []bool{true, true, true, true}
	expectFound(t, []findTest{
		{"it stays 1", loop(5, Jump(1, Reckoned(4, api.AluMul, 3, 3)), Phi(3, from, []int{1, 4})),
			[]api.Known{many, one(1), one(2), one(1), one(1)}, sure},
		{"it does not", loop(5, Jump(1, Reckoned(4, api.AluMul, 3, 2)), Phi(3, from, []int{1, 4})),
			[]api.Known{many, one(1), one(2), many, many}, sure},
		{"itself", loop(4, Jump(1), Phi(3, from, []int{2, 3})),
			[]api.Known{many, one(1), one(2), one(2)}, sure},
		{"two that change places", loop(5, Jump(1), Phi(3, from, []int{1, 4}), Phi(4, from, []int{2, 3})),
			[]api.Known{many, one(1), one(2), many, many}, sure},
		{"two alike that change places", loop(5, Jump(1), Phi(3, from, []int{1, 4}), Phi(4, from, []int{1, 3})),
			[]api.Known{many, one(1), one(2), one(1), one(1)}, sure},
		{"a way that its own value shuts", Function(0, 5, Jump(1, Constant(0, 0)),
			Branch(1, 2, 3, Phi(1, []int{0, 2, 3}, []int{0, 2, 3})), Jump(1, Constant(2, 9)),
			Branch(4, 1, 4, Copied(3, 1), Got(4)), Give(1)),
			[]api.Known{one(0), one(0), unknown, one(0), many}, []bool{true, true, false, true, true}},
		{"a way that opens later on", Function(0, 6, Jump(1, Constant(0, 0), Constant(5, 3)),
			Branch(1, 2, 3, Phi(1, []int{0, 2, 3}, []int{0, 2, 3})), Jump(1, Constant(2, 9)),
			Branch(4, 1, 4, Reckoned(3, api.AluAdd, 1, 5), Got(4)), Give(1)),
			[]api.Known{one(0), many, one(9), many, many, one(3)}, []bool{true, true, true, true, true}},
	})
}

package live

import (
	"testing"

	"crucible/api"
)

// The count of the document's stage: what a loop needs is live all around it.
func TestLoop(t *testing.T) {
	f := function(0, 5,
		jump(1, constant(0, 0), constant(1, 0), constant(2, 1), constant(3, 5)),
		branch(4, 2, 3, reckoned(4, api.AluLt, 0, 3)),
		jump(1, reckoned(0, api.AluAdd, 0, 2), reckoned(1, api.AluAdd, 1, 0), put(1)),
		give(1))
	in, out := liveOf(t, programOf(f), f)
	around := []int{0, 1, 2, 3}
	if !sameLists(in, [][]int{nil, around, around, {1}}) {
		t.Errorf("in %v", in)
	}
	if !sameLists(out, [][]int{around, {0, 1, 2, 3, 4}, around, {1}}) {
		t.Errorf("out %v", out)
	}
}

// Lv1: what each instruction and each end uses, and what it defines.
func TestLiveOfInstructions(t *testing.T) {
	g := function(2, 2, give(none))
	tests := []struct {
		name  string
		block api.Block
		in    []int
		out   []int
	}{
		{"nothing", give(none), nil, nil},
		{"an end that tells", give(3), []int{3}, []int{3}},
		{"defined ahead of the end", give(3, constant(3, 1)), nil, []int{3}},
		{"a constant that nobody needs", give(none, constant(3, 1)), nil, nil},
		{"a copy", give(3, copied(3, 4)), []int{4}, []int{3}},
		{"a copy to itself", give(3, copied(3, 3)), []int{3}, []int{3}},
		{"a copy that nobody needs", give(none, copied(3, 4)), []int{4}, nil},
		{"a reckoning", give(3, reckoned(3, api.AluAdd, 5, 4)), []int{4, 5}, []int{3}},
		{"a reckoning of its own", give(3, reckoned(3, api.AluAdd, 3, 4)), []int{3, 4}, []int{3}},
		{"a reckoning of one", give(3, reckoned(3, api.AluAdd, 4, 4)), []int{4}, []int{3}},
		{"used, then defined", give(3, put(3), constant(3, 1)), []int{3}, []int{3}},
		{"defined, then used", give(none, constant(3, 1), put(3)), nil, nil},
		{"defined twice", give(3, constant(3, 1), put(3), constant(3, 1)), nil, []int{3}},
		{"a load", give(3, load(3, 5)), []int{5}, []int{3}},
		{"a store", give(none, store(5, 2)), []int{2, 5}, nil},
		{"a check", give(none, checked(0)), []int{0}, nil},
		{"a call", give(2, called(2, 1, 4, 3)), []int{3, 4}, []int{2}},
		{"a call that tells nobody", give(2, called(none, 1, 4, 3)), []int{2, 3, 4}, []int{2}},
		{"a get", give(1, got(1)), nil, []int{1}},
		{"a put", give(none, put(1)), []int{1}, nil},
		{"a global", give(1, api.Instr{Op: api.OpGlobal, Dst: 1}), nil, []int{1}},
		{"a slot", give(1, api.Instr{Op: api.OpSlot, Dst: 1}), nil, []int{1}},
		{"an OpPhi of none", give(1, phi(1, nil, nil)), []int{1}, []int{1}},
		{"an OpPhi of none that nobody needs", give(2, phi(1, nil, nil)), []int{2}, []int{2}},
	}
	for _, x := range tests {
		f := function(0, 6, x.block)
		in, out := liveOf(t, programOf(f, g), f)
		if !sameLists(in, [][]int{x.in}) || !sameLists(out, [][]int{x.out}) {
			t.Errorf("%s: %v, %v", x.name, in, out)
		}
	}
}

// Lv1: what comes from successors; a jump's Arg, which is 0, is none.
func TestLiveOfWays(t *testing.T) {
	tests := []struct {
		name    string
		f       api.Func
		in, out [][]int
	}{
		{"a jump", function(0, 3, jump(1), give(none)), [][]int{nil, nil}, [][]int{nil, nil}},
		{"both ways", function(0, 4, branch(3, 1, 2), give(1), give(2)),
			[][]int{{1, 2, 3}, {1}, {2}}, [][]int{{1, 2, 3}, {1}, {2}}},
		{"one way defines it", function(0, 4, branch(3, 1, 2), give(1, constant(1, 1)), give(1)),
			[][]int{{1, 3}, nil, {1}}, [][]int{{1, 3}, {1}, {1}}},
		{"both ways define it", function(0, 4, branch(3, 1, 2), give(1, constant(1, 1)), give(1, constant(1, 1))),
			[][]int{{3}, nil, nil}, [][]int{{3}, {1}, {1}}},
		{"both ways are one", function(0, 2, branch(0, 1, 1), give(1)), [][]int{{0, 1}, {1}}, [][]int{{0, 1}, {1}}},
		{"around for ever", function(0, 2, jump(1), jump(1)), [][]int{nil, nil}, [][]int{nil, nil}},
		{"needed in the next round", function(0, 2, jump(1), jump(1, put(0), got(0))),
			[][]int{{0}, {0}}, [][]int{{0}, {0}}},
		{"not reached", function(0, 3, give(0), jump(2, constant(0, 1)), branch(1, 1, 2, put(0))),
			[][]int{{0}, {1}, {0, 1}}, [][]int{{0}, {0, 1}, {0, 1}}},
		{"not reached, leads to what is", function(0, 3, jump(2), jump(2, constant(1, 1)), give(1, put(0))),
			[][]int{{0, 1}, {0}, {0, 1}}, [][]int{{0, 1}, {0, 1}, {1}}},
	}
	for _, x := range tests {
		in, out := liveOf(t, programOf(x.f), x.f)
		if !sameLists(in, x.in) || !sameLists(out, x.out) {
			t.Errorf("%s: %v, %v", x.name, in, out)
		}
	}
}

// Lv1: OpPhis use at the ends of those that lead to them, and define at their block's beginning.
func TestLiveOfPhis(t *testing.T) {
	both := []int{1, 2}
	tests := []struct {
		name    string
		f       api.Func
		in, out [][]int
	}{
		{"each way its own", function(0, 5, branch(0, 1, 2), jump(3), jump(3, got(2)), give(3, phi(3, both, []int{1, 2}))),
			[][]int{{0, 1}, {1}, nil, {3}}, [][]int{{0, 1}, {1}, {2}, {3}}},
		{"not needed, but its arguments are",
			function(0, 5, branch(0, 1, 2), jump(3), jump(3), give(4, phi(3, both, []int{1, 2}))),
			[][]int{{0, 1, 2, 4}, {1, 4}, {2, 4}, {4}}, [][]int{{0, 1, 2, 4}, {1, 4}, {2, 4}, {4}}},
		{"needed by others too", function(0, 4, jump(1), give(1, phi(3, []int{0}, []int{1}))),
			[][]int{{1}, {1}}, [][]int{{1}, {1}}},
		{"at the other way's end too", function(0, 4, branch(0, 1, 2), give(2), give(3, phi(3, []int{0}, []int{1}))),
			[][]int{{0, 1, 2}, {2}, {3}}, [][]int{{0, 1, 2}, {2}, {3}}},
		{"what it defines, used by itself", function(0, 2, jump(1), branch(1, 1, 1, phi(0, []int{0, 1}, []int{1, 0}))),
			[][]int{{1}, {0, 1}}, [][]int{{1}, {0, 1}}},
		{"they change places", function(0, 2, jump(1),
			jump(1, phi(0, []int{0, 1}, []int{0, 1}), phi(1, []int{0, 1}, []int{1, 0}))),
			[][]int{{0, 1}, {0, 1}}, [][]int{{0, 1}, {0, 1}}},
		{"used behind what defines it there", function(0, 3, jump(1, constant(0, 1)), give(2, phi(2, []int{0}, []int{0}))),
			[][]int{nil, {2}}, [][]int{{0}, {2}}},
		{"defined anew behind it", function(0, 3, jump(1), give(2, phi(2, []int{0}, []int{0}), constant(2, 1))),
			[][]int{{0}, nil}, [][]int{{0}, {2}}},
		{"both ways are one", function(0, 3, branch(0, 1, 1), give(2, phi(2, []int{0}, []int{1}))),
			[][]int{{0, 1}, {2}}, [][]int{{0, 1}, {2}}},
		{"from what is not reached", function(0, 4, jump(2), jump(2), give(3, phi(3, []int{0, 1}, []int{0, 1}))),
			[][]int{{0}, {1}, {3}}, [][]int{{0}, {1}, {3}}},
	}
	for _, x := range tests {
		in, out := liveOf(t, programOf(x.f), x.f)
		if !sameLists(in, x.in) || !sameLists(out, x.out) {
			t.Errorf("%s: %v, %v", x.name, in, out)
		}
	}
}

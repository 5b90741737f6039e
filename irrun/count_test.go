package irrun

import (
	"testing"

	"crucible/api"
)

func TestCount(t *testing.T) {
	all := api.End{Kind: api.EndExit, Code: 15, Out: "\x01\x03\x06\x0a\x0f"}
	tests := []struct {
		name string
		alu  int
		args []int
		fn   int
		want int
	}{
		{"each round", api.AluAdd, []int{1, 0}, 0, 5},
		{"another one of the same Alu", api.AluAdd, []int{0, 2}, 0, 5},
		{"once more than rounds", api.AluLt, []int{0, 3}, 0, 6},
		{"the other way round", api.AluAdd, []int{0, 1}, 0, 0},
		{"another Alu", api.AluSub, []int{1, 0}, 0, 0},
		{"another function", api.AluAdd, []int{1, 0}, 1, 0},
		{"no function", api.AluAdd, []int{1, 0}, -1, 0},
		{"a function far off", api.AluAdd, []int{1, 0}, 1<<63 - 1, 0},
		{"no Alu", 0, []int{1, 0}, 0, 0},
		{"one argument", api.AluAdd, []int{1}, 0, 0},
		{"three", api.AluAdd, []int{1, 0, 0}, 0, 0},
		{"none", api.AluAdd, nil, 0, 0},
		{"registers that are none", api.AluAdd, []int{-1, 1 << 40}, 0, 0},
	}
	for _, x := range tests {
		if n, e := Count(counting(), "", plenty, 1, x.alu, x.args, x.fn); n != x.want || e != all {
			t.Errorf("%s: %d, %+v", x.name, n, e)
		}
	}
}

func TestCountUpToTheEnd(t *testing.T) {
	// Five steps are ahead of the first round, and a round is 6: the fourth of them is counted.
	for fuel := range 50 {
		want := min(max(fuel-3, 0)/6, 5)
		if n, _ := Count(counting(), "", fuel, 1, api.AluAdd, []int{1, 0}, 0); n != want {
			t.Errorf("fuel %d: %d, not %d", fuel, n, want)
		}
	}
	if n, e := Count(counting(), "", plenty, 0, api.AluAdd, []int{1, 0}, 0); n != 0 || e != trapped(api.TrapStack) {
		t.Errorf("without calls: %d, %+v", n, e)
	}
}

func TestCountOfAllCalls(t *testing.T) {
	p := factorial(5)
	for fn, want := range []int{0, 5} {
		if n, e := Count(p, "", plenty, 10, api.AluMul, []int{3, 0}, fn); n != want || e != exit(120) {
			t.Errorf("function %d: %d, %+v", fn, n, e)
		}
	}
	// The same reckoning at two places of one function is the same, that of another function is not.
	both := function(0, 2, 0, give(0, reckoned(0, api.AluAdd, 0, 1), reckoned(1, api.AluAdd, 0, 1), called(-1, 1), called(-1, 1)))
	one := function(0, 2, 0, give(0, reckoned(0, api.AluAdd, 0, 1)))
	for fn, want := range []int{2, 2, 0} {
		if n, _ := Count(programOf(0, both, one, one), "", plenty, 10, api.AluAdd, []int{0, 1}, fn); n != want {
			t.Errorf("function %d: %d, not %d", fn, n, want)
		}
	}
}

func TestCountOfWhatIsTrapped(t *testing.T) {
	// The step was done: the trap came of it.
	p := straight(constant(1, 6), constant(2, 2), reckoned(2, api.AluDiv, 1, 2), constant(2, 0), reckoned(2, api.AluDiv, 1, 2), reckoned(2, api.AluDiv, 1, 2))
	if n, e := Count(p, "", plenty, 1, api.AluDiv, []int{1, 2}, 0); n != 2 || e != trapped(api.TrapDivide) {
		t.Errorf("%d, %+v", n, e)
	}
}

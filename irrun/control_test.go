package irrun

import (
	"testing"

	"crucible/api"
)

func TestEndsOfBlocks(t *testing.T) {
	for _, x := range []struct{ test, want int32 }{{0, 2}, {1, 1}, {-1, 1}, {-1 << 31, 1}, {256, 1}} {
		p := programOf(0, function(0, 2, 0,
			branch(0, 2, 1, constant(0, x.test)),
			give(1, constant(1, 2)),
			give(1, constant(1, 1))))
		expectSteps(t, "a branch", p, "", 1, 4, exit(x.want))
	}
	p := programOf(0, function(0, 1, 0, jump(2), give(-1), jump(3, constant(0, 5)), give(0)))
	expectSteps(t, "jumps", p, "", 1, 4, exit(5))
	p = programOf(0, function(0, 1, 0, branch(0, 1, 1), give(0, constant(0, 5))))
	expectSteps(t, "both ways to one", p, "", 1, 3, exit(5))
	p = programOf(0, function(0, 1, 0, give(-1, constant(0, 5))))
	expectSteps(t, "nothing is told", p, "", 1, 2, exit(0))
	p = programOf(0, function(0, 0, 0, give(-1)))
	expectSteps(t, "nothing is done", p, "", 1, 1, exit(0))
	expectSteps(t, "a loop", counting(), "", 1, 38, api.End{Kind: api.EndExit, Code: 15, Out: "\x01\x03\x06\x0a\x0f"})
}

func TestPhisChooseByTheBlockOneCameFrom(t *testing.T) {
	for _, x := range []struct{ test, want int32 }{{0, 30}, {1, 20}} {
		p := programOf(0, function(0, 4, 0,
			branch(0, 1, 2, constant(0, x.test), constant(3, 99)),
			jump(3, constant(1, 20)),
			jump(3, constant(2, 30)),
			give(3, phi(3, []int{1, 2}, []int{1, 2}))))
		expectSteps(t, "of two", p, "", 1, 7, exit(x.want))
	}
	p := programOf(0, function(0, 2, 0, branch(0, 1, 1, constant(0, 7)), give(1, phi(1, []int{0}, []int{0}))))
	expectSteps(t, "both ways from one", p, "", 1, 4, exit(7))
}

func TestPhisAreDoneAtOnce(t *testing.T) {
	// Each round the two change places; the third has what the first had.
	rounds := func(n int32) api.Program {
		return programOf(0, function(0, 8, 0,
			jump(1, constant(0, 10), constant(1, 20), constant(4, n), constant(5, 1)),
			branch(4, 2, 3,
				phi(0, []int{0, 2}, []int{0, 1}), phi(1, []int{0, 2}, []int{1, 0}), phi(2, []int{0, 2}, []int{5, 0})),
			jump(1, reckoned(4, api.AluSub, 4, 5)),
			give(7, constant(6, 100), reckoned(7, api.AluMul, 0, 6), reckoned(7, api.AluAdd, 7, 1),
				reckoned(7, api.AluMul, 7, 6), reckoned(7, api.AluAdd, 7, 2))))
	}
	for n, want := range []int32{102001, 201010, 102020, 201010} {
		expectSteps(t, "rounds", rounds(int32(n)), "", 1, 15+6*n, exit(want))
	}
}

func TestFuelOfPhis(t *testing.T) {
	p := programOf(0, function(0, 3, 0, jump(1),
		give(0, phi(0, []int{0}, []int{1}), phi(1, []int{0}, []int{2}), phi(2, []int{0}, []int{0}))))
	expectSteps(t, "three of them", p, "", 1, 5, exit(0))
	for fuel := -3; fuel <= 4; fuel++ {
		if e := Run(p, "", fuel, 1); e != (api.End{Kind: api.EndFuel}) {
			t.Errorf("fuel %d: %+v", fuel, e)
		}
	}
	first := straight(phi(0, nil, nil), phi(1, nil, nil), constant(2, 'x'), put(2))
	for fuel := -3; fuel <= 3; fuel++ {
		if e := Run(first, "", fuel, 1); e != (api.End{Kind: api.EndFuel}) {
			t.Errorf("block 0, fuel %d: %+v", fuel, e)
		}
	}
	if e := Run(first, "", 4, 1); e != (api.End{Kind: api.EndFuel, Out: "x"}) {
		t.Errorf("block 0, fuel 4: %+v", e)
	}
}

func TestPhisOfAFunctionThatIsCalledAgain(t *testing.T) {
	// An OpPhi of block 0 tells 0, also where a parameter had a value, and in each call.
	p := programOf(0,
		function(0, 2, 0, give(1, constant(0, 5), called(1, 1, 0), called(1, 1, 0))),
		function(1, 2, 0, give(0, phi(0, nil, nil))))
	expectSteps(t, "a parameter", p, "", 2, 8, exit(0))
}

func TestNoFuel(t *testing.T) {
	for _, fuel := range []int{0, -1, -1 << 63} {
		for name, p := range map[string]api.Program{"counting": counting(), "echo": echo(), "nothing": programOf(0, function(0, 0, 0, give(-1)))} {
			if e := Run(p, "abc", fuel, 1); e != (api.End{Kind: api.EndFuel}) {
				t.Errorf("%s: fuel %d: %+v", name, fuel, e)
			}
		}
	}
}

func TestEndlessLoop(t *testing.T) {
	p := programOf(0, function(0, 1, 0, jump(1), jump(1)))
	if e := Run(p, "", 1000000, 1); e != (api.End{Kind: api.EndFuel}) {
		t.Errorf("%+v", e)
	}
}

func TestGreatestFuel(t *testing.T) {
	if e := Run(counting(), "", 1<<63-1, 1<<63-1); e.Kind != api.EndExit || e.Code != 15 {
		t.Errorf("%+v", e)
	}
}

package brick

import (
	"math/rand"
	"reflect"
	"testing"

	"crucible/api"
	"crucible/ir"
	"crucible/irrun"
)

// Random programs may be; they end in all ways.
func TestRandom(t *testing.T) {
	r := rand.New(rand.NewSource(1))
	ends := make([]int, 4)
	for range 3000 {
		p := Random(r.Intn, Small)
		if ir.Check(p) != api.OK {
			t.Fatalf("%+v may not be", p)
		}
		ends[irrun.Run(p, "abc", 1000, 8).Kind]++
	}
	if min(ends[api.EndExit], ends[api.EndTrap], ends[api.EndFuel]) < 100 {
		t.Errorf("%v", ends)
	}
}

// What is unlike is told, with fuel enough and without.
func TestUnlike(t *testing.T) {
	puts := func(l ...int32) api.Program {
		b := Give(None)
		for i, n := range l {
			b.Code = append(b.Code, Constant(i, n), Put(i))
		}
		return ProgramOf(Function(0, len(l), b))
	}
	tests := []struct {
		p, q       api.Program
		fuel, more int
		unlike     bool
	}{
		{puts(1, 2), puts(1, 2), 100, 100, false},
		{puts(1, 2), puts(1, 3), 100, 100, true},
		{puts(1, 2), puts(1), 100, 100, true},
		{puts(1, 2), puts(1), 2, 100, false},
		{puts(1, 2), puts(1), 100, 2, false},
		{puts(1, 2), puts(1), 4, 100, true},
		{puts(1, 2), puts(2), 2, 2, true},
		{puts(1, 2), puts(2), 1, 2, false},
	}
	for i, x := range tests {
		if _, unlike := Unlike(x.p, x.q, Run{Fuel: x.fuel, Deep: 2}, x.more); unlike != x.unlike {
			t.Errorf("%d: %v", i, unlike)
		}
	}
}

// What shares memory is found, and what was written into is another one.
func TestSpoil(t *testing.T) {
	r := rand.New(rand.NewSource(2))
	for range 100 {
		p := Roomy(Random(r.Intn, Small))
		was := Whole(p)
		f, g := ir.Copy(p.Funcs[0]), ir.Copy(p.Funcs[0])
		if !Spoil(f) || !reflect.DeepEqual(Whole(p), was) {
			t.Fatal("a copy shares memory")
		}
		if CodeSize(g) > 0 && (Spoil(g, g) || reflect.DeepEqual(Whole(ProgramOf(g)), Whole(ProgramOf(p.Funcs[0])))) {
			t.Fatal("what shares memory is not found")
		}
		Spoil(p.Funcs[0])
		if reflect.DeepEqual(Whole(p), was) {
			t.Fatal("nothing was written")
		}
	}
}

package sample

import (
	"math/rand"
	"reflect"
	"testing"

	"crucible/api"
	"crucible/check"
)

// The same choices write the same text, others mostly another one; nearly all are programs.
func TestSource(t *testing.T) {
	const tries = 1000
	seen := map[string]bool{}
	programs := 0
	for seed := range int64(tries) {
		src := Source(rand.New(rand.NewSource(seed)).Intn)
		if Source(rand.New(rand.NewSource(seed)).Intn) != src {
			t.Fatalf("%d: two texts", seed)
		}
		seen[src] = true
		if _, _, ok := check.Source(src); ok {
			programs++
		}
	}
	if len(seen) < tries*9/10 || programs < tries*9/10 {
		t.Errorf("%d texts, %d programs", len(seen), programs)
	}
}

// Spoil changes the program that it is handed, mostly.
func TestSpoil(t *testing.T) {
	const tries = 200
	changed := 0
	for seed := range int64(tries) {
		src := Source(rand.New(rand.NewSource(seed)).Intn)
		c, _, ok := check.Source(src)
		if !ok {
			continue
		}
		Spoil(&c, rand.New(rand.NewSource(seed)).Intn)
		if as, _, _ := check.Source(src); !same(as, c) {
			changed++
		}
	}
	if changed < tries/2 {
		t.Errorf("%d were changed", changed)
	}
}

// same tells whether two programs have the same terms; what leads back to itself is like nothing.
func same(a, b api.Checked) bool {
	left := 100_000
	var alike func(x, y api.Term) bool
	alike = func(x, y api.Term) bool {
		left--
		if left < 0 || len(x.Kids) != len(y.Kids) {
			return false
		}
		for i := range x.Kids {
			if !alike(x.Kids[i], y.Kids[i]) {
				return false
			}
		}
		x.Kids, y.Kids = nil, nil
		return reflect.DeepEqual(x, y)
	}
	for i := range a.Routines {
		if !alike(a.Routines[i].Body, b.Routines[i].Body) {
			return false
		}
	}
	return true
}

package lattice

import (
	"math"
	"math/rand"
	"slices"
	"testing"

	"crucible/api"
)

// strange is numbers that are in no set.
var strange = []int{-1, -64, -65, math.MinInt, api.MaxRegs, api.MaxRegs + 1, api.MaxRegs + 64, math.MaxInt}

// edges is numbers at which a set's room begins or ends.
var edges = []int{0, 1, 62, 63, 64, 65, 127, 128, 4095, 4096, api.MaxRegs - 65, api.MaxRegs - 64, api.MaxRegs - 2, api.MaxRegs - 1}

// expectSet holds a set to some numbers, each once, rising.
func expectSet(t *testing.T, s Set, want ...int) {
	t.Helper()
	got := slices.Collect(s.All())
	if !slices.Equal(got, want) || s.Len() != len(want) {
		t.Fatalf("%v, %d, not %v", got, s.Len(), want)
	}
	for _, n := range want {
		if !s.Has(n) {
			t.Fatalf("%d is not in %v", n, want)
		}
	}
	for _, n := range slices.Concat(strange, edges) {
		if s.Has(n) != slices.Contains(want, n) {
			t.Fatalf("Has(%d) of %v", n, want)
		}
	}
	if same := NewSet(want...); !s.Equal(same) || !same.Equal(s) || !s.Equal(s) {
		t.Fatalf("%v is not the same as itself", want)
	}
}

// La2: sets of none, of one, of some that stand twice and in no order.
func TestNewSet(t *testing.T) {
	expectSet(t, NewSet())
	expectSet(t, NewSet(nil...))
	for _, n := range edges {
		expectSet(t, NewSet(n), n)
	}
	expectSet(t, NewSet(edges...), edges...)
	expectSet(t, NewSet(70, 3, 3, 70, 0, 3), 0, 3, 70)
	var all []int
	for n := range api.MaxRegs {
		all = append(all, n)
	}
	expectSet(t, NewSet(all...), all...)
}

// La2: numbers that can't be in a set are left away.
func TestStrange(t *testing.T) {
	expectSet(t, NewSet(strange...))
	expectSet(t, NewSet(slices.Concat(strange, []int{5}, strange)...), 5)
	for _, s := range []Set{NewSet(), NewSet(0), NewSet(5, 64), NewSet(edges...)} {
		have := slices.Collect(s.All())
		for _, n := range strange {
			expectSet(t, NewSet(n))
			expectSet(t, s.With(n), have...)
			expectSet(t, s.Without(n), have...)
			if s.Has(n) {
				t.Errorf("%d is in %v", n, have)
			}
		}
	}
}

// La2: a number more, a number less, whether it was in it or not.
func TestWithAndWithout(t *testing.T) {
	s := NewSet(3, 70)
	expectSet(t, s.With(3), 3, 70)
	expectSet(t, s.With(0), 0, 3, 70)
	expectSet(t, s.With(5000), 3, 70, 5000)
	expectSet(t, s.With(5000).Without(5000), 3, 70)
	expectSet(t, s.Without(3), 70)
	expectSet(t, s.Without(70), 3)
	expectSet(t, s.Without(70).Without(3))
	expectSet(t, s.Without(4), 3, 70)
	expectSet(t, s.Without(6), 3, 70)
	expectSet(t, s.Without(60000), 3, 70)
	for _, n := range edges {
		expectSet(t, NewSet().With(n), n)
		expectSet(t, NewSet(n).Without(n))
		expectSet(t, NewSet(n).With(n), n)
		expectSet(t, NewSet().Without(n))
	}
}

// La2: what is in either, in both, in one alone, also where one is longer than the other.
func TestTwoSets(t *testing.T) {
	a, b, none := NewSet(1, 3, 70), NewSet(3, 70, 71, 9000), NewSet()
	expectSet(t, a.Union(b), 1, 3, 70, 71, 9000)
	expectSet(t, b.Union(a), 1, 3, 70, 71, 9000)
	expectSet(t, a.Meet(b), 3, 70)
	expectSet(t, b.Meet(a), 3, 70)
	expectSet(t, a.Minus(b), 1)
	expectSet(t, b.Minus(a), 71, 9000)
	for _, s := range []Set{a, b, none} {
		l := slices.Collect(s.All())
		expectSet(t, s.Union(none), l...)
		expectSet(t, none.Union(s), l...)
		expectSet(t, s.Union(s), l...)
		expectSet(t, s.Meet(s), l...)
		expectSet(t, s.Meet(none))
		expectSet(t, none.Meet(s))
		expectSet(t, s.Minus(none), l...)
		expectSet(t, none.Minus(s))
		expectSet(t, s.Minus(s))
	}
}

// La2: sets are the same just if their numbers are, however they came about.
func TestEqual(t *testing.T) {
	sets := []Set{NewSet(), NewSet(0), NewSet(64), NewSet(0, 64), NewSet(1), NewSet(api.MaxRegs - 1), NewSet(0, api.MaxRegs-1)}
	for i, a := range sets {
		for j, b := range sets {
			if a.Equal(b) != (i == j) {
				t.Errorf("%d and %d", i, j)
			}
		}
	}
	far := NewSet(0, 60000)
	for _, s := range []Set{far.Without(60000), far.Minus(NewSet(60000)), far.Meet(NewSet(0, 1)), far.Meet(NewSet(0, 59999)), NewSet().With(0)} {
		if !s.Equal(NewSet(0)) || !NewSet(0).Equal(s) || s.Equal(far) || far.Equal(s) {
			t.Errorf("%v is not 0 alone", slices.Collect(s.All()))
		}
	}
}

// La2, R3: neither what is made of a set, nor what is done to the list that it was made of, turns it.
func TestNotTurned(t *testing.T) {
	room := []int{3, 70, 200, 9, 9}
	s, u := NewSet(room[:3]...), NewSet(3, 5, 70)
	all := s.All()
	made := []Set{s.With(4), s.With(300), s.With(70), s.Without(70), s.Without(200), s.Without(9), s.Union(u), u.Union(s), s.Meet(u), u.Meet(s), s.Minus(u), u.Minus(s), s.Without(-1), s.With(-1)}
	expectValues(t, room, 3, 70, 200, 9, 9)
	clear(room)
	expectSet(t, s, 3, 70, 200)
	expectSet(t, u, 3, 5, 70)
	var before [][]int
	for _, m := range made {
		before = append(before, slices.Collect(m.All()))
		for _, n := range []int{0, 4, 63, 70, 150, 255} {
			m.With(n).Union(s).Minus(u)
			m.Without(n).Meet(s).Without(3)
		}
	}
	for i, m := range made {
		expectSet(t, m, before[i]...)
	}
	expectSet(t, s, 3, 70, 200)
	expectSet(t, u, 3, 5, 70)
	expectValues(t, slices.Collect(all), 3, 70, 200)
}

// La2: going through a set can be ended early, done again, and done within itself.
func TestAll(t *testing.T) {
	s := NewSet(edges...)
	all := s.All()
	for stop := range edges {
		var got []int
		for n := range all {
			got = append(got, n)
			if len(got) > stop {
				break
			}
		}
		expectValues(t, got, edges[:stop+1]...)
	}
	pairs := 0
	for a := range all {
		for b := range all {
			if a < b {
				pairs++
			}
		}
	}
	if pairs != len(edges)*(len(edges)-1)/2 {
		t.Errorf("%d pairs", pairs)
	}
	for n := range NewSet().All() {
		t.Errorf("%d in none", n)
	}
}

// modelSet is a set as a list that rises.
type modelSet []int

func (m modelSet) filtered(stays func(n int) bool) modelSet {
	var l modelSet
	for _, n := range m {
		if stays(n) {
			l = append(l, n)
		}
	}
	return l
}

func (m modelSet) with(l ...int) modelSet {
	all := append(slices.Clone(m), l...)
	slices.Sort(all)
	return slices.Compact(all)
}

// La2: random sets, made of others again and again, are the model's.
func TestRandomSets(t *testing.T) {
	for seed := range 60 {
		random := rand.New(rand.NewSource(int64(seed)))
		top := []int{5, 64, 65, 200, 5000, api.MaxRegs}[seed%6]
		sets, models := []Set{NewSet()}, []modelSet{nil}
		for range 300 {
			i, j, n := random.Intn(len(sets)), random.Intn(len(sets)), random.Intn(top)
			a, b := models[i], models[j]
			s, m := NewSet(), modelSet{}
			switch random.Intn(7) {
			case 0:
				l := []int{n, random.Intn(top), random.Intn(top), n}
				s, m = NewSet(l...), modelSet(nil).with(l...)
			case 1, 2:
				s, m = sets[i].With(n), a.with(n)
			case 3:
				s, m = sets[i].Without(n), a.filtered(func(x int) bool { return x != n })
			case 4:
				s, m = sets[i].Union(sets[j]), a.with(b...)
			case 5:
				s, m = sets[i].Meet(sets[j]), a.filtered(func(x int) bool { return slices.Contains(b, x) })
			case 6:
				s, m = sets[i].Minus(sets[j]), a.filtered(func(x int) bool { return !slices.Contains(b, x) })
			}
			expectSet(t, s, m...)
			if sets[i].Equal(sets[j]) != slices.Equal(a, b) {
				t.Fatalf("%v and %v", a, b)
			}
			sets, models = append(sets, s), append(models, m)
		}
		for i, s := range sets {
			expectSet(t, s, models[i]...)
		}
	}
}

package lattice

import (
	"iter"
	"math/bits"
	"slices"

	"crucible/api"
)

// Set is a set of numbers.
type Set struct {
	// Never turned, and its last word is not 0: two sets are equal just if their rows are.
	row row
}

// mayBeIn tells whether a number can be one of a set's.
func mayBeIn(n int) bool { return n >= 0 && n < api.MaxRegs }

// NewSet is one of some numbers.
func NewSet(l ...int) Set {
	size := 0
	for _, n := range l {
		if mayBeIn(n) {
			size = max(size, n+1)
		}
	}
	r := rowFor(size)
	for _, n := range l {
		if mayBeIn(n) {
			r.add(n)
		}
	}
	return Set{r}
}

// Has tells whether a number is in it.
func (s Set) Has(n int) bool { return mayBeIn(n) && s.row.has(n) }

// With is a set with a number more.
func (s Set) With(n int) Set {
	if !mayBeIn(n) {
		return Set{slices.Clone(s.row)}
	}
	r := rowFor(max(len(s.row)*wordBits, n+1))
	copy(r, s.row)
	r.add(n)
	return Set{r}
}

// Without is a set with a number less.
func (s Set) Without(n int) Set {
	r := slices.Clone(s.row)
	if s.Has(n) {
		r.remove(n)
	}
	return Set{r.trimmed()}
}

// Union is what is in either.
func (s Set) Union(t Set) Set {
	long, short := s.row, t.row
	if len(long) < len(short) {
		long, short = short, long
	}
	r := slices.Clone(long)
	for i, word := range short {
		r[i] |= word
	}
	return Set{r}
}

// Meet is what is in both.
func (s Set) Meet(t Set) Set {
	r := slices.Clone(s.row[:min(len(s.row), len(t.row))])
	for i := range r {
		r[i] &= t.row[i]
	}
	return Set{r.trimmed()}
}

// Minus is what is in this one alone.
func (s Set) Minus(t Set) Set {
	r := slices.Clone(s.row)
	for i := range min(len(r), len(t.row)) {
		r[i] &^= t.row[i]
	}
	return Set{r.trimmed()}
}

// Equal tells whether both have the same.
func (s Set) Equal(t Set) bool { return slices.Equal(s.row, t.row) }

// Len is how many numbers it has.
func (s Set) Len() int {
	n := 0
	for _, word := range s.row {
		n += bits.OnesCount64(word)
	}
	return n
}

// All goes through its numbers.
func (s Set) All() iter.Seq[int] {
	return func(yield func(int) bool) {
		for n := s.row.next(0); n != none; n = s.row.next(n + 1) {
			if !yield(n) {
				return
			}
		}
	}
}

package sccp

import (
	"math/rand"
	"slices"
	"testing"

	"crucible/api"
	. "crucible/brick"
	"crucible/word"
)

// state is what is known, and gone, in one round of the model.
type state struct {
	known []api.Known
	gone  []bool
}

// model is the chapter's words again, all of them asked anew round by round, till nothing changes.
func model(f api.Func) state {
	s := state{make([]api.Known, f.Regs), make([]bool, len(f.Blocks))}
	for {
		next := s.next(f)
		if slices.Equal(next.known, s.known) && slices.Equal(next.gone, s.gone) {
			return s
		}
		s = next
	}
}

func (s state) next(f api.Func) state {
	next := state{make([]api.Known, f.Regs), make([]bool, len(f.Blocks))}
	next.gone[0] = true
	for r := range f.Params {
		next.known[r].Kind = api.KnownMany
	}
	for i, b := range f.Blocks {
		for _, x := range b.Code {
			if s.gone[i] && x.Dst >= 0 {
				next.known[x.Dst] = s.told(f, i, x)
			}
		}
		for j := range f.Blocks {
			next.gone[j] = next.gone[j] || s.goes(f, i, j)
		}
	}
	return next
}

// goes tells whether the edge from a block to another one is gone.
func (s state) goes(f api.Func, from, to int) bool {
	b := f.Blocks[from]
	if !s.gone[from] || !slices.Contains(b.To, to) {
		return false
	}
	if b.End != api.EndBranch || b.To[0] == b.To[1] && s.known[b.Arg].Kind != api.KnownNone {
		return true
	}
	switch k := s.known[b.Arg]; k.Kind {
	case api.KnownOne:
		return (to == b.To[0]) == (k.Value != 0)
	case api.KnownMany:
		return true
	}
	return false
}

// told is what an instruction of a block that is gone tells.
func (s state) told(f api.Func, block int, x api.Instr) api.Known {
	of := func(i int) api.Known { return s.known[x.Args[i]] }
	switch x.Op {
	case api.OpConst:
		return api.Known{Kind: api.KnownOne, Value: x.Imm}
	case api.OpCopy:
		return of(0)
	case api.OpAlu:
		if min(of(0).Kind, of(1).Kind) == api.KnownNone {
			return api.Known{}
		}
		v, trap := word.Alu(x.Alu, uint32(of(0).Value), uint32(of(1).Value))
		if max(of(0).Kind, of(1).Kind) == api.KnownOne && trap == 0 {
			return api.Known{Kind: api.KnownOne, Value: int32(v)}
		}
	case api.OpPhi:
		var l []api.Known
		for i, from := range x.Pred {
			if s.goes(f, from, block) && of(i).Kind != api.KnownNone {
				l = append(l, of(i))
			}
		}
		if len(x.Pred) == 0 {
			return api.Known{Kind: api.KnownOne}
		}
		if len(l) == 0 {
			return api.Known{}
		}
		if !slices.ContainsFunc(l, func(k api.Known) bool { return k != l[0] }) {
			return l[0]
		}
	}
	return api.Known{Kind: api.KnownMany}
}

func expectModel(t *testing.T, p api.Program, f api.Func) state {
	t.Helper()
	known, gone := found(t, p, f)
	want := model(f)
	if !slices.Equal(known, want.known) || !slices.Equal(gone, want.gone) {
		t.Fatalf("%v, %v, not %v, of %+v", known, gone, want, f)
	}
	return want
}

// Sc1: Find is what the words say.
func TestFindAgainstTheModel(t *testing.T) {
	r := rand.New(rand.NewSource(31))
	kinds, ungone := make([]int, 3), 0
	for i := range 6000 {
		s := constants
		if i%3 == 0 {
			s = Small
		}
		p := inForm(t, r, s)
		for _, f := range p.Funcs {
			s := expectModel(t, p, f)
			for _, k := range s.known {
				kinds[k.Kind]++
			}
			for _, gone := range s.gone {
				if !gone {
					ungone++
				}
			}
		}
	}
	if min(kinds[0], kinds[1], kinds[2], ungone) < 3000 {
		t.Errorf("%v, %d are not gone: the test says little", kinds, ungone)
	}
}

package lower

import (
	"math/rand"
	"testing"

	"crucible/api"
	"crucible/ir"
	"crucible/sample"
)

// Of programs that layer 12 does not tell nothing is promised but that calls end, without a panic.

func mainOf(kids ...api.Term) api.Checked {
	return api.Checked{Routines: []api.Routine{{Name: "main", Result: api.TypeInt, Body: api.Term{Kind: api.TermBlock, Kids: kids}}}}
}

func term(kind int, kids ...api.Term) api.Term { return api.Term{Kind: kind, Kids: kids} }

func number(x int32) api.Term {
	return api.Term{Kind: api.TermConst, Type: api.TypeInt, Imm: x}
}

// tried lowers something that may be no program: what is told all the same may be.
func tried(t *testing.T, what string, c api.Checked) {
	t.Helper()
	defer func() {
		if x := recover(); x != nil {
			t.Errorf("%s: panics: %v", what, x)
		}
	}()
	p, err := Lower(c)
	if err == api.OK && ir.Check(p) != api.OK {
		t.Errorf("%s: what is told may not be", what)
	}
	if err != api.OK && (p.Funcs != nil || p.Data != nil || p.Global != 0 || p.Main != 0) {
		t.Errorf("%s: beside %d: %+v", what, err, p)
	}
}

func TestNoPrograms(t *testing.T) {
	tried(t, "nothing", api.Checked{})
	tried(t, "a main that is none", api.Checked{Main: 5})
	tried(t, "a main below 0", api.Checked{Main: -1, Routines: mainOf().Routines})
	tried(t, "a body that is none", api.Checked{Routines: make([]api.Routine, 1)})
	tried(t, "many routines", api.Checked{Routines: make([]api.Routine, 1_000_000)})
	for kind := -1; kind < 60; kind++ {
		for kids := range 7 {
			l := make([]api.Term, kids)
			for i := range l {
				l[i] = number(int32(i))
			}
			x, y := term(kind, l...), term(kind, term(kind, l...), term(kind, l...), term(kind, l...), term(kind, l...))
			for _, z := range []api.Term{x, y, term(kind, x), term(kind, x, y), term(kind, y, x)} {
				tried(t, "a term", mainOf(z))
				tried(t, "as a value", mainOf(term(api.TermReturn, z)))
				tried(t, "as one of two", mainOf(term(api.TermEval, term(api.TermAlu, z, z))))
				tried(t, "as a place", mainOf(term(api.TermEval, term(api.TermAssign, z, z))))
				tried(t, "as a test", mainOf(term(api.TermWhile, z, z), term(api.TermIf, z, z, z), term(api.TermEval, term(api.TermAnd, z, z))))
				tried(t, "as all parts of a loop", mainOf(term(api.TermFor, z, z, z, z)))
				tried(t, "as an argument", mainOf(term(api.TermEval, term(api.TermCall, z))))
			}
		}
	}
}

func TestStrangeNumbers(t *testing.T) {
	for _, n := range []int{-1, 1, 4, 13, 1 << 16, 1<<16 + 1, 1 << 31, 1 << 40, 1<<63 - 1, -1 << 63} {
		c := mainOf()
		c.Size = n
		tried(t, "a size of globals", c)
		c.Size = 4
		c.Data = []api.Fill{{At: n, Bytes: "x"}}
		tried(t, "data that lie nowhere", c)
		c = mainOf(term(api.TermEval, api.Term{Kind: api.TermPlace, Global: true, Elem: api.TypeInt}))
		c.Globals = []api.Var{{Name: "x", Type: api.Type{Kind: api.TypeInt}, At: n}}
		tried(t, "a global that lies nowhere", c)
		c = mainOf(term(api.TermWhile, number(1), term(api.TermDecl), api.Term{Kind: api.TermDecl, Var: 1}))
		c.Records = []api.Record{{Size: n}, {Size: -n}}
		c.Routines[0].Vars = []api.Var{{Type: api.Type{Kind: api.TypeStruct}}, {Type: api.Type{Kind: api.TypeStruct, Struct: 1}}}
		tried(t, "records of such sizes", c)
		c = mainOf()
		c.Routines[0].Params = n
		tried(t, "parameters that are not there", c)
		c.Routines[0].Vars = []api.Var{{Type: api.Type{Kind: n}}}
		tried(t, "a type that is none", c)
		for _, kind := range []int{api.TermPlace, api.TermArray, api.TermStruct, api.TermDecl} {
			tried(t, "a variable that is none", mainOf(term(api.TermEval, term(api.TermCall, api.Term{Kind: kind, Var: n})), api.Term{Kind: kind, Var: n}))
		}
		tried(t, "a function that is none", mainOf(term(api.TermReturn, api.Term{Kind: api.TermCall, Func: n})))
		c = mainOf(term(api.TermReturn, api.Term{Kind: api.TermPlace, Elem: n, Field: n, Len: n, Kids: []api.Term{number(7)}}))
		c.Routines[0].Vars = []api.Var{{Type: api.Type{Kind: api.TypeInt}}}
		tried(t, "a place that lies nowhere", c)
		tried(t, "an operation that is none", mainOf(term(api.TermReturn, api.Term{Kind: api.TermAlu, Op: n, Kids: []api.Term{number(7), number(1)}})))
	}
	c := mainOf()
	c.Routines[0].Vars = make([]api.Var, 10_000_000)
	tried(t, "many variables", c)
	many := make([]api.Var, 200)
	for i := range many {
		many[i].Type = api.Type{Kind: api.TypeArray, Elem: api.TypeInt, Len: api.MaxArray}
	}
	c.Routines[0].Vars = many
	refusedAsFull(t, "more bytes of slots than may be", c)
}

// TestTermsWithoutEnd lowers terms that lead back to themselves, and few that are many.
func TestTermsWithoutEnd(t *testing.T) {
	for kind := range 60 {
		for _, count := range []int{1, 2, 4} {
			kids := make([]api.Term, count)
			for i := range kids {
				kids[i] = api.Term{Kind: kind, Kids: kids}
			}
			tried(t, "terms without end", mainOf(kids...))
			tried(t, "values without end", mainOf(term(api.TermReturn, kids[0])))
			tried(t, "tests without end", mainOf(term(api.TermWhile, kids[0], term(api.TermBlock))))
		}
		x := term(api.TermNone)
		for range 200 {
			x = term(kind, x, x)
		}
		tried(t, "terms in two places each", mainOf(x))
	}
	many := make([]api.Term, 1_000_000)
	for i := range many {
		many[i] = term(api.TermBlock, many...)
	}
	tried(t, "many blocks in each", mainOf(many...))
	for i := range many {
		many[i] = term(api.TermNone)
	}
	many[len(many)-1] = api.Term{Kind: api.TermCall, Kids: many}
	tried(t, "many arguments", mainOf(term(api.TermEval, many[len(many)-1])))
}

// TestSpoiltPrograms changes parts of a program that was one.
func TestSpoiltPrograms(t *testing.T) {
	for seed := range int64(3000) {
		_, c, ok := randomChecked(seed)
		if !ok {
			continue
		}
		sample.Spoil(&c, rand.New(rand.NewSource(seed)).Intn)
		tried(t, "a program that was spoilt", c)
	}
}

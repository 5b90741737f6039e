package source

import (
	"math/rand"
	"testing"

	"crucible/api"
	"crucible/check"
	"crucible/sample"
)

// Of programs that layer 12 does not tell nothing is promised but what holds of every call: it ends, and does not panic.

func mainOf(kids ...api.Term) api.Checked {
	return api.Checked{Routines: []api.Routine{{Name: "main", Result: api.TypeInt, Body: api.Term{Kind: api.TermBlock, Kids: kids}}}}
}

func term(kind int, kids ...api.Term) api.Term { return api.Term{Kind: kind, Kids: kids} }

func number(x int32) api.Term {
	return api.Term{Kind: api.TermConst, Type: api.TypeInt, Imm: x}
}

// tried runs something that may be no program.
func tried(t *testing.T, what string, p api.Checked, fuel int) {
	t.Helper()
	defer func() {
		if x := recover(); x != nil {
			t.Errorf("%s: panics: %v", what, x)
		}
	}()
	if e, n, err := Run(p, "abc", fuel, 100); err != api.OK && (e != api.End{} || n != 0) {
		t.Errorf("%s: beside %d: %+v, %d", what, err, e, n)
	}
}

func TestNoPrograms(t *testing.T) {
	tried(t, "nothing", api.Checked{}, 100)
	tried(t, "a main that is none", api.Checked{Main: 5}, 100)
	tried(t, "a main below 0", api.Checked{Main: -1, Routines: mainOf().Routines}, 100)
	tried(t, "a body that is none", api.Checked{Routines: make([]api.Routine, 1)}, 100)
	for kind := -1; kind < 60; kind++ {
		tried(t, "a term alone", mainOf(term(kind)), 100)
		tried(t, "a term of one", mainOf(term(kind, number(1))), 100)
		tried(t, "a term of two", mainOf(term(kind, number(1), number(2))), 100)
		tried(t, "a term of terms", mainOf(term(kind, term(kind), term(kind), term(kind), term(kind))), 100)
		tried(t, "as a value", mainOf(term(api.TermReturn, term(kind))), 100)
		tried(t, "as a place", mainOf(term(api.TermEval, term(api.TermAssign, term(kind), number(1)))), 100)
		tried(t, "as a test", mainOf(term(api.TermWhile, term(kind), term(kind))), 100)
		tried(t, "as all parts of a loop", mainOf(term(api.TermFor, term(kind), term(kind), term(kind), term(kind))), 100)
	}
	for _, n := range []int{-1, 1 << 16, 1<<16 + 1, 1 << 40, 1<<63 - 1, -1 << 63} {
		p := mainOf()
		p.Size = n
		tried(t, "a size of globals", p, 100)
		p = mainOf()
		p.Data = []api.Fill{{At: n, Bytes: "x"}}
		tried(t, "data that lie nowhere", p, 100)
		p.Size = 4
		p.Globals = []api.Var{{Name: "x", Type: api.Type{Kind: api.TypeInt}, At: n}}
		tried(t, "a global that lies nowhere", p, 100)
		p = mainOf()
		p.Records = []api.Record{{Size: n}, {Size: -n}}
		p.Routines[0].Vars = []api.Var{{Type: api.Type{Kind: api.TypeStruct}}, {Type: api.Type{Kind: api.TypeStruct, Struct: 1}}}
		tried(t, "records of such sizes", p, 100)
		p = mainOf()
		p.Routines[0].Params = n
		tried(t, "parameters that are not there", p, 100)
		p = mainOf(term(api.TermReturn, api.Term{Kind: api.TermPlace, Elem: api.TypeInt, Var: n}))
		tried(t, "a variable that is none", p, 100)
		p = mainOf(term(api.TermReturn, api.Term{Kind: api.TermCall, Func: n}))
		tried(t, "a function that is none", p, 100)
		p = mainOf(term(api.TermReturn, api.Term{Kind: api.TermPlace, Elem: api.TypeInt, Field: n, Len: n, Kids: []api.Term{number(7)}}))
		p.Routines[0].Vars = []api.Var{{Type: api.Type{Kind: api.TypeInt}}}
		tried(t, "a place that lies nowhere", p, 100)
	}
	p := mainOf()
	p.Routines[0].Vars = make([]api.Var, 10_000_000)
	tried(t, "many variables", p, 100)
}

// TestTermsWithoutEnd runs terms that lead back to themselves.
func TestTermsWithoutEnd(t *testing.T) {
	for _, kind := range []int{api.TermBlock, api.TermEval, api.TermIf, api.TermDo, api.TermAlu, api.TermConv, api.TermCond, api.TermPut, api.TermReturn} {
		kids := make([]api.Term, 4)
		for i := range kids {
			kids[i] = api.Term{Kind: kind, Kids: kids}
		}
		tried(t, "terms without end", mainOf(kids...), 50_000_000)
		p := mainOf(term(api.TermEval, api.Term{Kind: api.TermCall}))
		tried(t, "main in itself", p, 50_000_000)
	}
	kids := make([]api.Term, 1)
	kids[0] = api.Term{Kind: api.TermCall, Kids: kids}
	tried(t, "arguments without end", mainOf(term(api.TermEval, kids[0])), 50_000_000)
	many := make([]api.Term, 1_000_000)
	for i := range many {
		many[i] = number(1)
	}
	many[len(many)-1] = api.Term{Kind: api.TermCall, Kids: many}
	tried(t, "many arguments", mainOf(term(api.TermEval, many[len(many)-1])), 50_000_000)
}

// TestSpoiltPrograms changes a part of a program that was one.
func TestSpoiltPrograms(t *testing.T) {
	for seed := range int64(2000) {
		p, _, ok := check.Source(randomSource(seed))
		if !ok {
			continue
		}
		sample.Spoil(&p, rand.New(rand.NewSource(seed)).Intn)
		tried(t, "a program that was spoilt", p, 5000)
	}
}

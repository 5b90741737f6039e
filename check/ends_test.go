package check

import (
	"testing"

	"crucible/api"
)

func term(kind int, kids ...api.Term) api.Term { return api.Term{Kind: kind, Kids: kids} }

func number32(n int32) api.Term {
	return api.Term{Kind: api.TermConst, Type: api.TypeInt, Imm: n}
}

// statementsUpTo are all statements of a height, over few leaves and tests.
func statementsUpTo(height int) []api.Term {
	l := []api.Term{term(api.TermNone), term(api.TermReturn), term(api.TermBreak), term(api.TermContinue), term(api.TermEval, number32(1)), {Kind: api.TermDecl}}
	if height == 1 {
		return l
	}
	none := term(api.TermNone)
	within := statementsUpTo(height - 1)
	tests := []api.Term{number32(0), number32(1), {Kind: api.TermConst, Type: api.TypeUint, Imm: -1}, term(api.TermAlu, number32(1), number32(1)), term(api.TermConv, number32(1))}
	for _, a := range within {
		l = append(l, term(api.TermBlock, a), term(api.TermIf, number32(1), a), term(api.TermFor, none, none, none, a))
		for _, test := range tests {
			l = append(l, term(api.TermWhile, test, a), term(api.TermDo, a, test), term(api.TermFor, none, test, none, a))
		}
		for _, b := range within {
			l = append(l, term(api.TermBlock, a, b), term(api.TermIf, number32(1), a, b))
		}
	}
	return append(l, term(api.TermBlock))
}

// Ck2: Ends, of all statements of some height, as the words have it.
func TestEndsOfAll(t *testing.T) {
	ends := 0
	for _, s := range statementsUpTo(3) {
		got := Ends(s)
		if got {
			ends++
		}
		if got != endsPlainly(s) {
			t.Fatalf("Ends(%s): %v", spell(s), got)
		}
	}
	if ends < 1000 {
		t.Errorf("only %d end", ends)
	}
	two := statementsUpTo(2)
	for _, a := range two {
		for _, b := range two {
			s := term(api.TermBlock, a, term(api.TermNone), term(api.TermWhile, number32(2), term(api.TermIf, number32(0), a, b)), b)
			if Ends(s) != endsPlainly(s) {
				t.Fatalf("Ends(%s): %v", spell(s), Ends(s))
			}
		}
	}
}

func TestEndsWrittenOut(t *testing.T) {
	wantAllRight(t,
		"int f() { return 1; }"+lastMain, "int f() { return 1; ; }"+lastMain, "int f() { { { return 1; } } }"+lastMain, "int f(int a) { if (a) return 1; else return 2; }"+lastMain, "int f(int a) { if (a) return 1; return 2; }"+lastMain, "int f(int a) { if (a) { if (a) return 1; else return 3; } else { return 2; } }"+lastMain, "int f(int a) { return 1; if (a) ; }"+lastMain,
		"int f() { while (1) ; }"+lastMain, "int f() { while (1u) ; }"+lastMain, "int f() { while ('a') ; }"+lastMain, "int f() { while (sizeof(int)) ; }"+lastMain, "int f() { do ; while (2); }"+lastMain, "int f() { for (;;) ; }"+lastMain, "int f() { for (; 1; ) ; }"+lastMain, "int f(int a) { for (a = 1; ; a += 1) { } }"+lastMain,
		"int f() { while (1) { while (1) break; } }"+lastMain, "int f() { while (1) { do { break; } while (0); } }"+lastMain, "int f() { for (;;) for (;;) break; }"+lastMain, "int f() { do continue; while (1); }"+lastMain, "int f(int a) { if (a) while (1) ; else return 1; }"+lastMain, "int f(int a) { while (1) if (a) return 1; else continue; }"+lastMain, "int f() { while (0) ; while (1) ; }"+lastMain, "int f() { do return 1; while (1); }"+lastMain, "int f() { return 1; while (1) break; }"+lastMain, "void f() { while (1) break; }"+lastMain,
	)
	wantWrong(t,
		"@int f() { }"+lastMain, "@int f() { ; }"+lastMain, "@int f() { 1; }"+lastMain, "@int f(int a) { if (a) return 1; }"+lastMain, "@int f(int a) { if (a) return 1; else ; }"+lastMain, "@int f(int a) { if (a) ; else return 1; }"+lastMain, "@int f(int a) { if (1) return 1; }"+lastMain, "@int f() { while (0) return 1; }"+lastMain, "@int f() { while (1) break; }"+lastMain, "@int f() { while (1) { if (1) { break; } } }"+lastMain, "@int f() { while (1) if (1) ; else break; }"+lastMain, "@int f() { while (1) { while (1) ; break; } }"+lastMain, "@int f() { do { break; } while (1); }"+lastMain, "@int f() { for (;;) break; }"+lastMain,
		"@int f() { while (1 + 1) ; }"+lastMain, "@int f() { while (-1) ; }"+lastMain, "@int f() { while ((char)1) ; }"+lastMain, "@int f() { while (1 || 1) ; }"+lastMain, "@int f() { while (!0) ; }"+lastMain, "@int f() { do ; while (0); }"+lastMain, "@int f() { do return 1; while (0); }"+lastMain, "@int f() { for (; 0; ) ; }"+lastMain, "@int f(int a) { while (a) return 1; }"+lastMain, "@int f() { for (; 1 - 0; ) ; }"+lastMain, "@int f() { for (;;) { return 1; break; } }"+lastMain, "@char f() { }"+lastMain, "@uint f() { ; }"+lastMain, "@int main() { }",
	)
}

// Ck2: what is no statement of a checked program, or no statement at all.
func TestEndsOfOthers(t *testing.T) {
	ret := term(api.TermReturn)
	for kind := -1; kind < 60; kind++ {
		want := kind == api.TermReturn
		if Ends(api.Term{Kind: kind}) != want {
			t.Errorf("a bare term of kind %d", kind)
		}
		statement := kind >= api.TermBlock && kind <= api.TermNone
		for _, kids := range [][]api.Term{{ret}, {ret, ret}, {ret, ret, ret}, {ret, ret, ret, ret}, {ret, ret, ret, ret, ret}} {
			if got := Ends(term(kind, kids...)); got && !statement {
				t.Errorf("an expression of kind %d ends", kind)
			}
		}
	}
	if Ends(number32(1)) || Ends(term(api.TermCall, ret)) || Ends(term(api.TermCond, ret, ret, ret)) || Ends(term(api.TermEval, ret)) || Ends(term(api.TermIf, ret, ret)) || Ends(api.Term{}) {
		t.Errorf("what does not end does")
	}
}

// Ck2, R1: however deep, and also where kids lead back to themselves, Ends ends.
func TestEndsOfDeep(t *testing.T) {
	for _, last := range []int{api.TermReturn, api.TermNone, api.TermBreak} {
		chain, choice, loop := term(last), term(last), term(last)
		for range 1 << 18 {
			chain = term(api.TermBlock, term(api.TermNone), chain, term(api.TermNone))
			choice = term(api.TermIf, number32(1), term(api.TermReturn), choice)
			loop = term(api.TermBlock, loop, term(api.TermNone))
		}
		want := last == api.TermReturn
		if Ends(chain) != want || Ends(choice) != want || Ends(term(api.TermWhile, number32(1), loop)) != (last != api.TermBreak) {
			t.Errorf("deep down is a term of kind %d: not so", last)
		}
	}
	endless := make([]api.Term, 1)
	endless[0] = term(api.TermBlock, endless...)
	if Ends(endless[0]) || Ends(term(api.TermWhile, number32(1), endless[0])) {
		t.Errorf("a block in itself ends")
	}
	choices := make([]api.Term, 3)
	choices[1] = term(api.TermReturn)
	choices[2] = term(api.TermIf, choices...)
	if Ends(term(api.TermIf, choices...)) {
		t.Errorf("a choice in itself ends")
	}
	choices[1] = term(api.TermNone)
	if Ends(term(api.TermIf, choices...)) || !Ends(term(api.TermBlock, term(api.TermReturn), choices[2])) {
		t.Errorf("a choice that is decided ahead")
	}
	wide := make([]api.Term, 1<<20)
	for i := range wide {
		wide[i] = term(api.TermNone)
	}
	if Ends(term(api.TermBlock, wide...)) {
		t.Errorf("a wide block ends")
	}
	wide[len(wide)-1] = term(api.TermReturn)
	if !Ends(term(api.TermBlock, wide...)) {
		t.Errorf("a wide block does not end")
	}
}

package check

import (
	"reflect"
	"strconv"
	"strings"
	"testing"

	"crucible/api"
)

// lastMain is a main to stand behind what is asked.
const lastMain = " int main() { return 0; }"

// marked is a source without its `@`, and where that stood.
func marked(t *testing.T, src string) (string, int) {
	t.Helper()
	at := strings.IndexByte(src, '@')
	if at < 0 || strings.Count(src, "@") != 1 {
		t.Fatalf("%q: no mark", src)
	}
	return src[:at] + src[at+1:], at
}

// wantDiag asks that a source is refused, at the place of its `@`.
func wantDiag(t *testing.T, kind int, src string) {
	t.Helper()
	plain, at := marked(t, src)
	wantRefused(t, plain, api.Diag{Kind: kind, At: at})
}

func wantRefused(t *testing.T, src string, want api.Diag) {
	t.Helper()
	c, d, ok := Source(src)
	if ok || d != want {
		t.Errorf("%.200q: %+v, %v, not %+v", src, d, ok, want)
	}
	if !reflect.DeepEqual(c, api.Checked{}) {
		t.Errorf("%.200q: refused, but %+v", src, c)
	}
}

// wantWrong asks that each source is refused with DiagType at its `@`.
func wantWrong(t *testing.T, sources ...string) {
	t.Helper()
	for _, src := range sources {
		wantDiag(t, api.DiagType, src)
	}
}

// wantRight asks that a source is accepted.
func wantRight(t *testing.T, src string) api.Checked {
	t.Helper()
	c, d, ok := Source(src)
	if !ok || d != (api.Diag{}) {
		t.Errorf("%.300q: %+v, %v", src, d, ok)
		return api.Checked{}
	}
	if why := ill(c); why != "" {
		t.Errorf("%.300q: ill: %s", src, why)
	}
	return c
}

// wantAllRight asks it of several.
func wantAllRight(t *testing.T, sources ...string) {
	t.Helper()
	for _, src := range sources {
		wantRight(t, src)
	}
}

// aluNames are the operations' names as spell writes them, by their numbers.
var aluNames = strings.Fields("none add sub mul div divu rem remu and or xor shl shr sar eq ne lt ltu le leu")

var typeNames = strings.Fields("void int uint char array struct refarray refstruct")

var termNames = map[int]string{
	api.TermConst: "const", api.TermPlace: "place", api.TermAssign: "assign", api.TermConv: "conv", api.TermAlu: "alu", api.TermAnd: "and", api.TermOr: "or", api.TermCond: "cond",
	api.TermCall: "call", api.TermGet: "get", api.TermPut: "put", api.TermArray: "array", api.TermStruct: "struct",
	api.TermBlock: "block", api.TermEval: "eval", api.TermDecl: "decl", api.TermIf: "if", api.TermWhile: "while", api.TermDo: "do", api.TermFor: "for",
	api.TermBreak: "break", api.TermContinue: "continue", api.TermReturn: "return", api.TermNone: "none",
}

// spell writes a term with all its parts that are not zero: two terms of one text are the same.
func spell(t api.Term) string {
	words := []string{termNames[t.Kind]}
	if t.Kind < api.TermBlock && t.Type != api.TypeVoid {
		words[0] += ":" + typeNames[t.Type]
	} else if t.Type != 0 {
		words = append(words, "type="+strconv.Itoa(t.Type))
	}
	if t.Kind == api.TermConst {
		words = append(words, strconv.Itoa(int(t.Imm)))
	} else if t.Imm != 0 {
		words = append(words, "imm="+strconv.Itoa(int(t.Imm)))
	}
	if t.Op != 0 {
		words = append(words, aluNames[t.Op])
	}
	if t.Mid != 0 {
		words = append(words, "in="+typeNames[t.Mid])
	}
	words = append(words, spellWhere(t)...)
	for _, k := range t.Kids {
		words = append(words, spell(k))
	}
	return "(" + strings.Join(words, " ") + ")"
}

// spellWhere writes which variable or function a term names.
func spellWhere(t api.Term) []string {
	var words []string
	switch t.Kind {
	case api.TermPlace, api.TermArray, api.TermStruct, api.TermDecl:
		sort := "v"
		if t.Global {
			sort = "g"
		}
		words = append(words, sort+strconv.Itoa(t.Var))
	case api.TermCall:
		words = append(words, "f"+strconv.Itoa(t.Func))
	}
	if t.Field != 0 {
		words = append(words, "+"+strconv.Itoa(t.Field))
	}
	if t.Len != 0 {
		words = append(words, "len="+strconv.Itoa(t.Len))
	}
	if t.Elem != 0 {
		words = append(words, "of="+typeNames[t.Elem])
	}
	return words
}

// setting is declared ahead of the expressions that are asked: globals g0 to g6, functions f0 to f3.
const setting = `
struct s { char a; int b; char c[3]; uint d[2]; };
struct q { int b; };
int i; uint u; char c; int ia[5]; uint ua[6]; char ca[7]; struct s t;
int f0(int n) { return n; }
void f1(char x, int a[], struct s *p) { }
uint f2() { return 1; }
char f3(uint a[], char b[], struct q *p) { return 1; }
`

// bodyTerm is the term of the first statement of a function f4 of parameters and variables (v0 to v7), behind its declarations.
func bodyTerm(t *testing.T, statement string) api.Term {
	t.Helper()
	head := "int f4(int vi, uint vu, char vc, int ra[], char rc[], struct s *rs) { struct s vs; char va[9]; "
	c := wantRight(t, setting+head+statement+" return 0; }"+lastMain)
	if len(c.Routines) != 6 {
		return api.Term{}
	}
	return c.Routines[4].Body.Kids[2]
}

// wantTerms asks for the terms of statements: pairs of a statement and its spelling.
func wantTerms(t *testing.T, pairs ...string) {
	t.Helper()
	for i := 0; i < len(pairs); i += 2 {
		if got := spell(bodyTerm(t, pairs[i])); got != pairs[i+1] {
			t.Errorf("%s\n is %s\nnot %s", pairs[i], got, pairs[i+1])
		}
	}
}

// wantValues likewise, of expressions.
func wantValues(t *testing.T, pairs ...string) {
	t.Helper()
	for i := 0; i < len(pairs); i += 2 {
		wantTerms(t, pairs[i]+";", "(eval "+pairs[i+1]+")")
	}
}

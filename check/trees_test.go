package check

import (
	"math"
	"reflect"
	"strings"
	"testing"
	"time"

	"crucible/api"
	"crucible/ast"
	"crucible/parser"
)

func node(kind int, text string, kids ...api.Node) api.Node {
	return api.Node{Kind: kind, Str: text, Kids: kids}
}

// program is a tree of a main whose body has these statements, behind other items.
func program(statements []api.Node, items ...api.Node) api.Node {
	main := node(api.NodeFunc, "main", node(api.NodeType, "int"), node(api.NodeBlock, "", append(statements, node(api.NodeReturn, "", node(api.NodeNumber, "")))...))
	return node(api.NodeProgram, "", append(items, main)...)
}

func wantNoTree(t *testing.T, n api.Node) {
	t.Helper()
	if c, d, ok := Check(n); ok || d != (api.Diag{Kind: api.DiagSyntax}) || !reflect.DeepEqual(c, api.Checked{}) {
		t.Errorf("a tree that may not be: %+v, %+v, %v", c, d, ok)
	}
}

// Ck1: trees that may not be.
func TestNoTree(t *testing.T) {
	wantNoTree(t, api.Node{})
	for kind := -1; kind < 70; kind++ {
		if kind != api.NodeProgram {
			wantNoTree(t, api.Node{Kind: kind})
		}
		wantNoTree(t, api.Node{Kind: kind, Num: 7})
		wantNoTree(t, api.Node{Kind: api.NodeProgram, Pos: 3, Kids: []api.Node{{Kind: kind, Pos: 4}}})
	}
	good, _, err := parser.Parse("int x[2] = {1, 2}; struct s { int a; }; int f(int a, struct s *p) { if (a) return f(-a, p) + x[0]; return p->a; } int main() { return 0; }")
	if err != api.OK {
		t.Fatal("no tree")
	}
	if _, _, ok := Check(good); !ok {
		t.Errorf("a tree that may be")
	}
	eachNode(&good, func(n *api.Node) {
		was := *n
		for _, bad := range []api.Node{{}, {Kind: was.Kind, Str: was.Str + " ", Num: was.Num, Flag: was.Flag, Kids: was.Kids}, {Kind: was.Kind, Str: was.Str, Num: 9, Flag: !was.Flag, Kids: nil}, {Kind: math.MinInt}} {
			*n = bad
			if ast.Check(good) == api.ErrTree {
				wantNoTree(t, good)
			}
		}
		*n = was
	})
	loop := make([]api.Node, 1)
	loop[0] = node(api.NodeBlock, "", loop...)
	wantNoTree(t, program(loop))
	many := make([]api.Node, 1<<18)
	for i := range many {
		many[i] = node(api.NodeNone, "")
	}
	wantNoTree(t, program(many))
	if _, d, ok := Check(node(api.NodeProgram, "")); ok || d != (api.Diag{Kind: api.DiagType}) {
		t.Errorf("nothing at all: %+v", d)
	}
	places := program(nil)
	for _, at := range []int{-5, math.MaxInt, math.MinInt, 77} {
		places.Kids[0].Kids[0] = api.Node{Kind: api.NodeType, Str: "struct s", Pos: at}
		if _, d, ok := Check(places); ok || d != (api.Diag{Kind: api.DiagType, At: at}) {
			t.Errorf("a place that may be any: %+v", d)
		}
	}
}

// eachNode shows each node of a tree.
func eachNode(n *api.Node, see func(n *api.Node)) {
	see(n)
	for i := range n.Kids {
		eachNode(&n.Kids[i], see)
	}
}

// repeated is a node within as many others, each made by wrap.
func repeated(times int, first api.Node, wrap func(api.Node) api.Node) api.Node {
	for range times {
		first = wrap(first)
	}
	return first
}

// R1: trees as deep as they may be, right ones and wrong ones, are gone through in time.
func TestDeepTrees(t *testing.T) {
	name, unknown, one := node(api.NodeName, "x"), api.Node{Kind: api.NodeName, Str: "y", Pos: 99}, api.Node{Kind: api.NodeNumber, Num: 1}
	global := node(api.NodeVars, "", node(api.NodeType, "int"), api.Node{Kind: api.NodeVar, Str: "x"}, api.Node{Kind: api.NodeVar, Str: "a", Flag: true, Kids: []api.Node{one}})
	put := node(api.NodeFunc, "f", node(api.NodeType, "int"), node(api.NodeParam, "n", node(api.NodeType, "char")), node(api.NodeBlock, "", node(api.NodeReturn, "", one)))
	const deep = 1<<18 - 100
	for what, wrap := range map[string]func(api.Node) api.Node{
		"unary":   func(n api.Node) api.Node { return node(api.NodeUnary, "-", n) },
		"not":     func(n api.Node) api.Node { return node(api.NodeUnary, "!", n) },
		"cast":    func(n api.Node) api.Node { return node(api.NodeCast, "", node(api.NodeType, "char"), n) },
		"sizeof":  func(n api.Node) api.Node { return node(api.NodeSizeof, "", n) },
		"call":    func(n api.Node) api.Node { return node(api.NodeCall, "f", n) },
		"binary":  func(n api.Node) api.Node { return node(api.NodeBinary, ">", n, one) },
		"second":  func(n api.Node) api.Node { return node(api.NodeBinary, "/", one, n) },
		"logical": func(n api.Node) api.Node { return node(api.NodeLogical, "&&", one, n) },
		"cond":    func(n api.Node) api.Node { return node(api.NodeCond, "", n, one, one) },
		"index":   func(n api.Node) api.Node { return node(api.NodeIndex, "", node(api.NodeName, "a"), n) },
		"assign":  func(n api.Node) api.Node { return node(api.NodeAssign, "<<=", name, n) },
	} {
		for _, last := range []api.Node{name, unknown, one} {
			n := repeated(deep/ast.Size(wrap(api.Node{})), last, func(n api.Node) api.Node { return wrap(n) })
			began := time.Now()
			_, d, ok := Check(program([]api.Node{node(api.NodeEval, "", n)}, global, put))
			if wrong := last.Pos == 99; ok == wrong || wrong && d != (api.Diag{Kind: api.DiagType, At: 99}) {
				t.Errorf("%s: %+v, %v", what, d, ok)
			}
			if took := time.Since(began); took > 20*time.Second {
				t.Errorf("%s took %s", what, took)
			}
		}
	}
	for what, wrap := range map[string]func(api.Node) api.Node{
		"field": func(n api.Node) api.Node { return node(api.NodeField, "b", n) },
		"arrow": func(n api.Node) api.Node { return node(api.NodeArrow, "b", n) },
		"index": func(n api.Node) api.Node { return node(api.NodeIndex, "", n, one) },
		"and":   func(n api.Node) api.Node { return node(api.NodeUnary, "&", n) },
	} {
		n := repeated(deep/2, unknown, wrap)
		want := 99
		if what == "and" {
			want = 0
		}
		if _, d, ok := Check(program([]api.Node{node(api.NodeEval, "", n)}, global)); ok || d != (api.Diag{Kind: api.DiagType, At: want}) {
			t.Errorf("%s: %+v, %v", what, d, ok)
		}
	}
	wantDeepStatements(t, global, name, unknown)
}

func wantDeepStatements(t *testing.T, global, name, unknown api.Node) {
	t.Helper()
	none, one := node(api.NodeNone, ""), api.Node{Kind: api.NodeNumber, Num: 1}
	for what, wrap := range map[string]func(api.Node) api.Node{
		"block": func(n api.Node) api.Node { return node(api.NodeBlock, "", n) },
		"if":    func(n api.Node) api.Node { return node(api.NodeIf, "", name, none, n) },
		"while": func(n api.Node) api.Node { return node(api.NodeWhile, "", one, n) },
		"do":    func(n api.Node) api.Node { return node(api.NodeDo, "", n, one) },
		"for":   func(n api.Node) api.Node { return node(api.NodeFor, "", none, name, none, n) },
	} {
		for _, last := range []api.Node{name, unknown} {
			within := repeated((1<<17)/ast.Size(wrap(api.Node{})), node(api.NodeBlock, "", sliceOf(1<<15, node(api.NodeEval, "", last))...), wrap)
			_, d, ok := Check(program([]api.Node{within}, global))
			if wrong := last.Pos == 99; ok == wrong || wrong && d != (api.Diag{Kind: api.DiagType, At: 99}) {
				t.Errorf("%s: %+v, %v", what, d, ok)
			}
		}
	}
}

func sliceOf(n int, one api.Node) []api.Node {
	l := make([]api.Node, n)
	for i := range l {
		l[i] = one
	}
	return l
}

// Ck1: a tree that Parse would refuse as too deep may be, and is checked.
func TestDeepIsNoMatterOfTrees(t *testing.T) {
	n := repeated(1000, api.Node{Kind: api.NodeNumber, Num: 5}, func(n api.Node) api.Node { return node(api.NodeUnary, "-", n) })
	item := node(api.NodeVars, "", node(api.NodeType, "int"), node(api.NodeVar, "x", n))
	c, d, ok := Check(program(nil, item))
	if !ok || len(c.Data) != 1 || c.Data[0].Bytes != "\x05\x00\x00\x00" {
		t.Errorf("a deep constant: %+v, %+v, %v", c, d, ok)
	}
}

// many structs, globals and strings are gone through in time, too.
func TestWideTrees(t *testing.T) {
	name := func(i int) string {
		return "n" + strings.Repeat("x", i%7) + string(rune('a'+i%26)) + string(rune('a'+i/26%26)) + string(rune('a'+i/676%26)) + string(rune('a'+i/17576))
	}
	var items []api.Node
	for i := range 30000 {
		items = append(items, node(api.NodeStruct, name(i), node(api.NodeVars, "", node(api.NodeType, "int"), node(api.NodeVar, "a"))))
	}
	for i := range 16384 {
		items = append(items, node(api.NodeVars, "", node(api.NodeType, "struct "+name(i)), node(api.NodeVar, name(i))))
	}
	var uses []api.Node
	for i := range 16384 {
		uses = append(uses, node(api.NodeEval, "", node(api.NodeField, "a", node(api.NodeName, name(i)))))
	}
	began := time.Now()
	c, d, ok := Check(program(uses, items...))
	if !ok || len(c.Records) != 30000 || len(c.Globals) != 16384 || c.Size != api.MaxGlobal || time.Since(began) > 20*time.Second {
		t.Errorf("many of all: %+v, %v, %d, %s", d, ok, c.Size, time.Since(began))
	}
}

// R3: what is handed in is not changed, and what is told shares nothing with it, nor one list with another.
func TestNothingShared(t *testing.T) {
	src := setting + "int f4(int vi, char vc, int ra[], struct s *rs) { struct s vs; char va[9] = \"ab\"; int l[3] = {1, vi, 2}; for (vi = 1; vi < 3 && vc; vi += 1) { f1(vi > 2, ra, rs); f3(ua, \"xy\", 0 ? 1 : 2); } return vi ? -vi : l[1]; }" + lastMain
	src = strings.Replace(src, "0 ? 1 : 2", "&w", 1)
	src = strings.Replace(src, "struct s vs;", "struct s vs; struct q w;", 1)
	n, _, err := parser.Parse(src)
	again, _, _ := parser.Parse(src)
	if err != api.OK {
		t.Fatal("no tree")
	}
	c, d, ok := Check(n)
	if !ok {
		t.Fatalf("refused: %+v", d)
	}
	if !reflect.DeepEqual(n, again) {
		t.Errorf("the tree was changed")
	}
	other, _, _ := Check(n)
	if !reflect.DeepEqual(c, other) {
		t.Errorf("twice asked, twice another answer")
	}
	// All of one answer is overwritten, its spare room too: the other stays.
	kept, _, _ := Check(n)
	overwrite(reflect.ValueOf(&c).Elem())
	if !reflect.DeepEqual(kept, other) || !reflect.DeepEqual(n, again) {
		t.Errorf("answers share memory")
	}
	seen := map[uintptr]bool{}
	apart(t, reflect.ValueOf(other), seen)
}

// overwrite fills all lists of an answer, up to their room's end, with zeros.
func overwrite(v reflect.Value) {
	switch v.Kind() {
	case reflect.Struct:
		for i := range v.NumField() {
			overwrite(v.Field(i))
		}
	case reflect.Slice:
		for i := range v.Len() {
			overwrite(v.Index(i))
		}
		v = v.Slice(0, v.Cap())
		for i := range v.Len() {
			v.Index(i).SetZero()
		}
	}
}

// apart asks that no element of a list, in its spare room too, is one of another's.
func apart(t *testing.T, v reflect.Value, seen map[uintptr]bool) {
	switch v.Kind() {
	case reflect.Struct:
		for i := range v.NumField() {
			apart(t, v.Field(i), seen)
		}
	case reflect.Slice:
		room := v.Slice(0, v.Cap())
		for i := range room.Len() {
			at := room.Index(i).Addr().Pointer()
			if seen[at] {
				t.Fatalf("two lists share memory")
			}
			seen[at] = true
		}
		for i := range v.Len() {
			apart(t, v.Index(i), seen)
		}
	}
}

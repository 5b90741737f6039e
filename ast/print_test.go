package ast

import (
	"fmt"
	"math/rand"
	"strings"
	"testing"

	"crucible/api"
	"crucible/lexer"
)

// printed asks for a tree's text.
func printed(t *testing.T, n api.Node, want string) {
	t.Helper()
	if s, e := Print(n); s != want || e != api.OK {
		t.Errorf("%q, %d, not %q", s, e, want)
	}
}

func TestPrintOfAll(t *testing.T) {
	printed(t, treeOfAll(), textOfAll)
	printed(t, program(), "")
}

// TestExamples has the chapter's examples.
func TestExamples(t *testing.T) {
	a, b, c, d := name("a"), name("b"), name("c"), name("d")
	printed(t, ofStatement(eval(node(api.NodeAssign, "=", a, binary("+", b, binary("*", c, d))))), "int f() {\na = b + c * d;\n}\n")
	cast := func(kind string, x api.Node) api.Node { return node(api.NodeCast, "", typed(kind), x) }
	for _, k := range []struct {
		n    api.Node
		want string
	}{
		{binary("*", binary("+", a, b), c), "(a + b) * c"},
		{unary("-", unary("-", a)), "- -a"},
		{cast("int", cast("char", name("x"))), "(int)(char)x"},
	} {
		printed(t, ofExpression(k.n), "int x = "+k.want+";\n")
	}
}

func TestPrintExpressions(t *testing.T) {
	a, b, c := name("a"), name("b"), name("c")
	char := func(n uint32) api.Node { return api.Node{Kind: api.NodeChar, Num: n} }
	str := func(s string) api.Node { return node(api.NodeString, s) }
	size := func(x api.Node) api.Node { return node(api.NodeSizeof, "", x) }
	cast := func(x api.Node) api.Node { return node(api.NodeCast, "", typed("struct s"), x) }
	index := func(x, y api.Node) api.Node { return node(api.NodeIndex, "", x, y) }
	sum := binary("+", a, b)
	set := node(api.NodeAssign, "=", a, b)
	cond := node(api.NodeCond, "", a, b, c)
	for _, k := range []struct {
		n    api.Node
		want string
	}{
		{number32(0), "0"}, {number32(1<<31 - 1), "2147483647"}, {number32(1 << 31), "2147483648u"}, {number32(1<<32 - 1), "4294967295u"},
		{flagged(number32(0)), "0u"}, {flagged(number32(1<<31 - 1)), "2147483647u"},
		{char(0), `'\x00'`}, {char(9), `'\x09'`}, {char(65), `'\x41'`}, {char(0xaf), `'\xaf'`}, {char(0xfa), `'\xfa'`}, {char(255), `'\xff'`},
		{str(""), `""`}, {str("a\n\t\r\x00\"'\\\x7f\xff\x01?"), `"a\n\t\r\0\"'\\\x7f\xff\x01?"`},
		{name("_"), "_"}, {name("A9"), "A9"},
		{index(a, b), "a[b]"}, {index(index(a, b), c), "a[b][c]"}, {index(a, index(b, c)), "a[b[c]]"}, {index(a, set), "a[a = b]"}, {index(set, sum), "(a = b)[a + b]"},
		{index(unary("-", a), b), "(-a)[b]"}, {index(cast(a), b), "((struct s)a)[b]"}, {index(size(a), b), "(sizeof a)[b]"}, {index(number32(1), b), "1[b]"}, {index(str("x"), b), `"x"[b]`},
		{node(api.NodeField, "f", a), "a.f"}, {node(api.NodeArrow, "f", a), "a->f"}, {node(api.NodeArrow, "g", node(api.NodeField, "f", index(a, b))), "a[b].f->g"},
		{node(api.NodeField, "f", unary("&", a)), "(&a).f"}, {node(api.NodeArrow, "f", cond), "(a ? b : c)->f"}, {node(api.NodeField, "f", number32(3)), "3.f"},
		{node(api.NodeCall, "f"), "f()"}, {node(api.NodeCall, "getbyte"), "getbyte()"}, {node(api.NodeCall, "putbyte", set), "putbyte(a = b)"},
		{node(api.NodeCall, "f", a, sum, set, cond), "f(a, a + b, a = b, a ? b : c)"}, {node(api.NodeField, "f", node(api.NodeCall, "g", a)), "g(a).f"},
		{unary("-", a), "-a"}, {unary("~", a), "~a"}, {unary("!", a), "!a"}, {unary("&", a), "&a"},
		{unary("-", unary("~", unary("!", unary("&", a)))), "-~!&a"}, {unary("~", unary("~", a)), "~ ~a"}, {unary("!", unary("!", a)), "! !a"}, {unary("&", unary("&", a)), "& &a"},
		{unary("-", unary("-", unary("-", a))), "- - -a"}, {unary("-", sum), "-(a + b)"}, {unary("-", binary("+", unary("-", a), b)), "-(-a + b)"},
		{unary("-", index(unary("-", a), b)), "-(-a)[b]"}, {unary("-", cast(unary("-", a))), "-(struct s)-a"}, {unary("-", number32(1)), "-1"}, {unary("-", size(a)), "-sizeof a"},
		{unary("&", node(api.NodeLogical, "&&", a, b)), "&(a && b)"}, {unary("!", binary("!=", a, b)), "!(a != b)"},
		{cast(a), "(struct s)a"}, {cast(cast(a)), "(struct s)(struct s)a"}, {cast(sum), "(struct s)(a + b)"}, {cast(unary("-", a)), "(struct s)-a"}, {cast(size(a)), "(struct s)sizeof a"}, {cast(index(a, b)), "(struct s)a[b]"},
		{size(typed("int")), "sizeof(int)"}, {size(typed("struct s")), "sizeof(struct s)"}, {size(a), "sizeof a"}, {size(sum), "sizeof (a + b)"}, {size(cast(a)), "sizeof ((struct s)a)"},
		{size(size(a)), "sizeof sizeof a"}, {size(size(typed("char"))), "sizeof sizeof(char)"}, {size(size(cast(a))), "sizeof sizeof ((struct s)a)"}, {size(unary("-", a)), "sizeof -a"}, {size(unary("-", cast(a))), "sizeof -(struct s)a"},
		{size(index(cast(a), b)), "sizeof ((struct s)a)[b]"}, {size(binary("+", cast(a), b)), "sizeof ((struct s)a + b)"}, {size(cond), "sizeof (a ? b : c)"}, {size(set), "sizeof (a = b)"},
		{cond, "a ? b : c"}, {node(api.NodeCond, "", cond, cond, cond), "(a ? b : c) ? a ? b : c : a ? b : c"}, {node(api.NodeCond, "", set, set, set), "(a = b) ? a = b : (a = b)"},
		{node(api.NodeAssign, "=", a, set), "a = a = b"}, {node(api.NodeAssign, ">>=", index(a, b), cond), "a[b] >>= a ? b : c"}, {node(api.NodeAssign, "^=", node(api.NodeField, "f", a), sum), "a.f ^= a + b"},
		{node(api.NodeAssign, "=", node(api.NodeArrow, "f", sum), c), "(a + b)->f = c"},
	} {
		printed(t, ofExpression(k.n), "int x = "+k.want+";\n")
	}
}

func TestPrintDeclarations(t *testing.T) {
	a, b := name("a"), name("b")
	set := node(api.NodeAssign, "=", a, b)
	list := func(kids ...api.Node) api.Node { return node(api.NodeList, "", kids...) }
	param := func(kind, s string) api.Node { return node(api.NodeParam, s, typed(kind)) }
	for _, k := range []struct {
		n    api.Node
		want string
	}{
		{node(api.NodeStruct, "s"), "struct s {\n};\n"},
		{node(api.NodeStruct, "s", vars("int", variable("a"))), "struct s {\nint a;\n};\n"},
		{node(api.NodeStruct, "s", vars("int", variable("a"), array("b", a)), vars("struct t", array("c", none()))), "struct s {\nint a, b[a];\nstruct t c[];\n};\n"},
		{vars("void", variable("a")), "void a;\n"},
		{vars("struct s", variable("a"), variable("b", a), array("c", a), array("d", none())), "struct s a, b = a, c[a], d[];\n"},
		{vars("char", array("a", set, set), array("b", none(), list(a)), array("c", number32(2), list(a, set, b))), "char a[a = b] = a = b, b[] = {a}, c[2] = {a, a = b, b};\n"},
		{vars("uint", variable("a", set)), "uint a = a = b;\n"},
		{function(block()), "int f() {\n}\n"},
		{function(param("int", "a"), block()), "int f(int a) {\n}\n"},
		{function(param("struct s", "a"), flagged(param("char", "b")), numbered(param("struct s", "c"), 1), numbered(param("int", "d"), 1), flagged(param("struct s", "e")), param("void", "g"), param("uint", "h"), block(none())),
			"int f(struct s a, char b[], struct s *c, int *d, struct s e[], void g, uint h) {\n;\n}\n"},
		{node(api.NodeFunc, "g", typed("struct s"), block(vars("int", variable("a")), none(), vars("int", variable("b")))), "struct s g() {\nint a;\n;\nint b;\n}\n"},
	} {
		printed(t, program(k.n), k.want)
		printed(t, program(k.n, vars("int", variable("y")), k.n), k.want+"int y;\n"+k.want)
	}
}

func TestPrintStatements(t *testing.T) {
	a, b, c := name("a"), name("b"), name("c")
	set := node(api.NodeAssign, "=", a, b)
	do := eval(node(api.NodeCall, "g"))
	loop := func(x, y, z api.Node) api.Node { return node(api.NodeFor, "", x, y, z, do) }
	for _, k := range []struct {
		n    api.Node
		want string
	}{
		{block(), "{\n}\n"}, {block(do, block(do), vars("int", variable("y"))), "{\ng();\n{\ng();\n}\nint y;\n}\n"},
		{eval(set), "a = b;\n"}, {eval(a), "a;\n"},
		{node(api.NodeIf, "", set, do), "if (a = b)\ng();\n"},
		{node(api.NodeIf, "", a, do, none()), "if (a)\ng();\nelse\n;\n"},
		{node(api.NodeIf, "", a, node(api.NodeIf, "", b, do, none())), "if (a)\nif (b)\ng();\nelse\n;\n"},
		{node(api.NodeIf, "", a, node(api.NodeIf, "", b, do, none()), do), "if (a)\nif (b)\ng();\nelse\n;\nelse\ng();\n"},
		{node(api.NodeIf, "", a, block(node(api.NodeIf, "", b, do)), do), "if (a)\n{\nif (b)\ng();\n}\nelse\ng();\n"},
		{node(api.NodeIf, "", a, do, node(api.NodeIf, "", b, do)), "if (a)\ng();\nelse\nif (b)\ng();\n"},
		{node(api.NodeWhile, "", set, none()), "while (a = b)\n;\n"},
		{node(api.NodeWhile, "", a, block(do)), "while (a)\n{\ng();\n}\n"},
		{node(api.NodeDo, "", do, set), "do\ng();\nwhile (a = b);\n"},
		{node(api.NodeDo, "", node(api.NodeDo, "", block(), a), b), "do\ndo\n{\n}\nwhile (a);\nwhile (b);\n"},
		{loop(none(), none(), none()), "for (; ; )\ng();\n"}, {loop(set, none(), none()), "for (a = b; ; )\ng();\n"}, {loop(none(), b, none()), "for (; b; )\ng();\n"},
		{loop(none(), none(), c), "for (; ; c)\ng();\n"}, {loop(a, set, c), "for (a; a = b; c)\ng();\n"}, {loop(a, b, set), "for (a; b; a = b)\ng();\n"},
		{node(api.NodeBreak, ""), "break;\n"}, {node(api.NodeContinue, ""), "continue;\n"}, {none(), ";\n"},
		{node(api.NodeReturn, ""), "return;\n"}, {node(api.NodeReturn, "", set), "return a = b;\n"},
	} {
		printed(t, ofStatement(k.n), "int f() {\n"+k.want+"}\n")
		printed(t, program(function(block(k.n, none(), k.n))), "int f() {\n"+k.want+";\n"+k.want+"}\n")
	}
}

// operator is an expression made of others that stand at levels; the level that it has itself.
type operator struct {
	level int
	make  func(kids ...api.Node) api.Node
	kids  []int    // at which level each stands; -1: it must be a place
	texts []string // ahead of each, and behind the last
}

func operators() []operator {
	var list []operator
	for i, row := range strings.Split("||,&&,|,^,&,== !=,< > <= >=,<< >>,+ -,* / %", ",") {
		kind := api.NodeBinary
		if i < 2 {
			kind = api.NodeLogical
		}
		for _, op := range strings.Fields(row) {
			list = append(list, operator{i + 2, func(kids ...api.Node) api.Node { return node(kind, op, kids...) }, []int{i + 2, i + 3}, []string{"", " " + op + " ", ""}})
		}
	}
	for _, op := range strings.Fields("= += -= *= /= %= &= |= ^= <<= >>=") {
		list = append(list, operator{0, func(kids ...api.Node) api.Node { return node(api.NodeAssign, op, kids...) }, []int{-1, 0}, []string{"", " " + op + " ", ""}})
	}
	for _, op := range strings.Fields("- ~ ! &") {
		list = append(list, operator{12, func(kids ...api.Node) api.Node { return node(api.NodeUnary, op, kids...) }, []int{12}, []string{op, ""}})
	}
	plain := func(level, kind int, str string, kids []int, texts ...string) {
		list = append(list, operator{level, func(kids ...api.Node) api.Node { return node(kind, str, kids...) }, kids, texts})
	}
	plain(1, api.NodeCond, "", []int{2, 0, 1}, "", " ? ", " : ", "")
	plain(13, api.NodeIndex, "", []int{13, 0}, "", "[", "]")
	plain(13, api.NodeField, "f", []int{13}, "", ".f")
	plain(13, api.NodeArrow, "f", []int{13}, "", "->f")
	plain(13, api.NodeCall, "f", []int{0, 0, 0}, "f(", ", ", ", ", ")")
	plain(12, api.NodeSizeof, "", []int{12}, "sizeof ", "")
	list = append(list, operator{12, func(kids ...api.Node) api.Node {
		return node(api.NodeCast, "", append([]api.Node{typed("int")}, kids...)...)
	}, []int{12}, []string{"(int)", ""}})
	return list
}

// text is the operator's, its kids' texts given: each in parentheses, where its level is too low.
func (o operator) text(kids []string, levels []int) string {
	out := o.texts[0]
	for i, k := range kids {
		if levels[i] < o.kids[i] || o.texts[0] == "sizeof " && strings.HasPrefix(k, "(int)") && levels[i] == 12 {
			k = "(" + k + ")"
		}
		if len(o.texts[0]) == 1 && strings.HasPrefix(k, o.texts[0]) {
			k = " " + k
		}
		out += k + o.texts[i+1]
	}
	return out
}

// TestOperatorsBesideEachOther has each operator as each kid of each other one.
func TestOperatorsBesideEachOther(t *testing.T) {
	for _, outer := range operators() {
		for at := range outer.kids {
			for _, inner := range operators() {
				x, text := inner.fill(nil, 0, "", 0)
				n, want := outer.fill(&x, at, text, inner.level)
				if outer.kids[at] == -1 && x.Kind != api.NodeIndex && x.Kind != api.NodeField && x.Kind != api.NodeArrow {
					holds(t, ofExpression(n), false)
					continue
				}
				printed(t, ofExpression(n), "int x = "+want+";\n")
			}
		}
	}
}

// fill is an operator with names, and one other kid perhaps; and its text.
func (o operator) fill(kid *api.Node, at int, text string, level int) (api.Node, string) {
	var kids []api.Node
	var texts []string
	var levels []int
	for i := range o.kids {
		s := string(rune('a' + i))
		if kid != nil && i == at {
			kids, texts, levels = append(kids, *kid), append(texts, text), append(levels, level)
			continue
		}
		kids, texts, levels = append(kids, name(s)), append(texts, s), append(levels, 13)
	}
	return o.make(kids...), o.text(texts, levels)
}

// TestRandomExpressions holds deeper expressions against the same rules.
func TestRandomExpressions(t *testing.T) {
	r := rand.New(rand.NewSource(4))
	all := operators()
	for range 2000 {
		n, text, _ := randomExpression(r, all, 1+r.Intn(7))
		printed(t, ofExpression(n), "int x = "+text+";\n")
	}
}

// randomExpression is one, its text and its level.
func randomExpression(r *rand.Rand, all []operator, depth int) (api.Node, string, int) {
	if depth == 0 || r.Intn(8) == 0 {
		return randomLeaf(r)
	}
	o := all[r.Intn(len(all))]
	var kids []api.Node
	var texts []string
	var levels []int
	for _, least := range o.kids {
		k, s, l := randomExpression(r, all, depth-1)
		if least == -1 && k.Kind != api.NodeIndex && k.Kind != api.NodeField && k.Kind != api.NodeArrow {
			k, s, l = name("place"), "place", 13
		}
		kids, texts, levels = append(kids, k), append(texts, s), append(levels, l)
	}
	return o.make(kids...), o.text(texts, levels), o.level
}

func randomLeaf(r *rand.Rand) (api.Node, string, int) {
	switch r.Intn(6) {
	case 0:
		n := r.Uint32() >> r.Intn(32)
		if n >= 1<<31 {
			return flagged(number32(n)), fmt.Sprint(n) + "u", 13
		}
		return number32(n), fmt.Sprint(n), 13
	case 1:
		n := uint32(r.Intn(256))
		return api.Node{Kind: api.NodeChar, Num: n}, fmt.Sprintf(`'\x%02x'`, n), 13
	case 2:
		s := make([]byte, r.Intn(5))
		r.Read(s)
		return node(api.NodeString, string(s)), lexer.Quote(string(s)), 13
	case 3:
		return node(api.NodeSizeof, "", typed("uint")), "sizeof(uint)", 12
	}
	s := string(rune('a' + r.Intn(26)))
	return name(s), s, 13
}

// randomProgram is some tree that may be.
func randomProgram(r *rand.Rand) api.Node {
	all := operators()
	expr := func() api.Node {
		n, _, _ := randomExpression(r, all, r.Intn(4))
		return n
	}
	var kids []api.Node
	for range r.Intn(4) {
		switch r.Intn(3) {
		case 0:
			kids = append(kids, node(api.NodeStruct, "s", vars("int", variable("y"), array("z", expr()))))
		case 1:
			kids = append(kids, vars("struct s", variable("y", expr()), array("z", none(), node(api.NodeList, "", expr(), expr()))))
		case 2:
			kids = append(kids, function(flagged(node(api.NodeParam, "p", typed("int"))), block(randomStatement(r, expr, 4), randomStatement(r, expr, 4))))
		}
	}
	return program(kids...)
}

func randomStatement(r *rand.Rand, expr func() api.Node, depth int) api.Node {
	if depth == 0 {
		return none()
	}
	kid := func() api.Node { return randomStatement(r, expr, depth-1) }
	switch r.Intn(9) {
	case 0:
		return node(api.NodeIf, "", expr(), kid())
	case 1:
		return node(api.NodeIf, "", expr(), block(kid()), kid())
	case 2:
		return node(api.NodeWhile, "", expr(), kid())
	case 3:
		return node(api.NodeDo, "", kid(), expr())
	case 4:
		return node(api.NodeFor, "", expr(), none(), expr(), kid())
	case 5:
		return block(kid(), vars("int", variable("y", expr())), kid())
	case 6:
		return node(api.NodeReturn, "", expr())
	case 7:
		return node(api.NodeBreak, "")
	}
	return eval(expr())
}

// TestLongTexts has texts of just 2^20 bytes, and of one more.
func TestLongTexts(t *testing.T) {
	const most = 1 << 20
	frame := len("int x = ;\n")
	for _, k := range []struct {
		of   func(n int) api.Node // whose text has n bytes
		some string               // what it has many of
	}{
		{func(n int) api.Node { return ofExpression(name(strings.Repeat("a", n-frame))) }, "aaa"},
		{func(n int) api.Node { return ofExpression(node(api.NodeString, strings.Repeat("b", n-frame-2))) }, "bbb"},
		{func(n int) api.Node {
			return ofExpression(node(api.NodeString, strings.Repeat("c", (n-frame-2)%4)+strings.Repeat("\xff", (n-frame-2)/4)))
		}, `\xff`},
		{func(n int) api.Node {
			return program(node(api.NodeStruct, strings.Repeat("d", n-len("struct  {\n};\n"))))
		}, "ddd"},
		{func(n int) api.Node {
			row := make([]api.Node, 1000)
			for i := range row {
				row[i] = eval(name(strings.Repeat("e", 1000)))
			}
			rest := n - len("int f() {\n}\n") - 1000*1002
			return program(function(block(append(row, eval(name(strings.Repeat("g", rest-2))))...)))
		}, "ggg;\n}\n"},
	} {
		for _, n := range []int{most - 1, most} {
			s, e := Print(k.of(n))
			if len(s) != n || e != api.OK || !strings.Contains(s, k.some) {
				t.Errorf("%s: %d bytes, %d, not %d", k.some, len(s), e, n)
			}
		}
		for _, n := range []int{most + 1, most + 2, most + 3, most + 4, most + 5, 2 * most} {
			tree := k.of(n)
			if s, e := Print(tree); s != "" || e != api.ErrLong {
				t.Errorf("%s: %d bytes: %d bytes, %d", k.some, n, len(s), e)
			}
			if e := Check(tree); e != api.OK {
				t.Errorf("%s: %d bytes: Check %d", k.some, n, e)
			}
			wrong := program(tree, tree)
			holds(t, wrong, false)
			tree.Kids = append(tree.Kids, vars("int", variable("int")))
			holds(t, tree, false)
		}
	}
	long := node(api.NodeString, strings.Repeat("\x01", 1<<24))
	if s, e := Print(ofExpression(node(api.NodeCall, "f", long, long, long))); s != "" || e != api.ErrLong {
		t.Errorf("%d bytes, %d", len(s), e)
	}
}

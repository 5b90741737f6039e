package parser

import (
	"math/rand"
	"reflect"
	"slices"
	"strconv"
	"strings"
	"testing"

	"crucible/api"
	"crucible/ast"
	"crucible/lexer"
)

// writer writes a random program, tokens and tree at once: the nodes' Pos are tokens, counted from 0.
type writer struct {
	r      *rand.Rand
	tokens []string
}

func (w *writer) put(tokens ...string) int {
	w.tokens = append(w.tokens, tokens...)
	return len(w.tokens) - len(tokens)
}

func (w *writer) chance(n int) bool { return w.r.Intn(n) == 0 }

func (w *writer) oneOf(list ...string) string { return list[w.r.Intn(len(list))] }

func (w *writer) name() string { return w.oneOf("a", "b", "x1", "_", "If", "getbytes", "s") }

// written is an expression: its tree, its level by layer 8, and its first token.
type written struct {
	node  api.Node
	start int
}

// expr writes an expression at a level, with more parentheses than are needed now and then.
func (w *writer) expr(level, depth int) written {
	if w.chance(6) {
		return w.parens(depth)
	}
	kind, own := w.kind(depth)
	if own < level {
		start := w.put("(")
		x := w.operation(kind, own, depth)
		w.put(")")
		return written{x.node, start}
	}
	return w.operation(kind, own, depth)
}

func (w *writer) parens(depth int) written {
	start := w.put("(")
	x := w.expr(0, depth-1)
	w.put(")")
	return written{x.node, start}
}

// levels has the operators by layer 8's levels, from 2 on.
func levels() [][]string {
	return [][]string{{"||"}, {"&&"}, {"|"}, {"^"}, {"&"}, {"==", "!="}, {"<", ">", "<=", ">="}, {"<<", ">>"}, {"+", "-"}, {"*", "/", "%"}}
}

// kind chooses a kind of expression, and tells its level.
func (w *writer) kind(depth int) (int, int) {
	if depth <= 0 {
		return []int{api.NodeNumber, api.NodeChar, api.NodeString, api.NodeName}[w.r.Intn(4)], 13
	}
	switch kind := api.NodeNumber + w.r.Intn(api.NodeSizeof); kind {
	case api.NodeAssign:
		return kind, 0
	case api.NodeCond:
		return kind, 1
	case api.NodeLogical:
		return kind, 2 + w.r.Intn(2)
	case api.NodeBinary:
		return kind, 4 + w.r.Intn(8)
	case api.NodeUnary, api.NodeCast, api.NodeSizeof:
		return kind, 12
	default:
		return kind, 13
	}
}

func (w *writer) operation(kind, level, depth int) written {
	depth--
	n := api.Node{Kind: kind, Pos: len(w.tokens)}
	switch kind {
	case api.NodeNumber, api.NodeChar, api.NodeString, api.NodeName:
		w.leaf(&n)
	case api.NodeIndex, api.NodeField, api.NodeArrow:
		return w.postfix(kind, depth)
	case api.NodeCall:
		n.Str = w.oneOf("f", "getbyte", "putbyte", "a")
		w.put(n.Str, "(")
		n.Kids = w.exprs(w.r.Intn(4), depth)
		w.put(")")
	case api.NodeUnary:
		n.Str = w.oneOf("-", "~", "!", "&")
		w.put(n.Str)
		n.Kids = []api.Node{w.expr(12, depth).node}
	case api.NodeBinary, api.NodeLogical:
		n.Str = w.oneOf(levels()[level-2]...)
		left := w.expr(level, depth)
		w.put(n.Str)
		n.Kids = []api.Node{left.node, w.expr(level+1, depth).node}
	case api.NodeCond:
		test := w.expr(2, depth)
		w.put("?")
		yes := w.expr(0, depth)
		w.put(":")
		n.Kids = []api.Node{test.node, yes.node, w.expr(1, depth).node}
	case api.NodeAssign:
		n.Str = w.oneOf("=", "+=", "-=", "*=", "/=", "%=", "&=", "|=", "^=", "<<=", ">>=")
		place := w.place(depth)
		w.put(n.Str)
		n.Kids = []api.Node{place.node, w.expr(0, depth).node}
	case api.NodeCast:
		w.put("(")
		n.Kids = []api.Node{w.typed()}
		w.put(")")
		n.Kids = append(n.Kids, w.expr(12, depth).node)
	case api.NodeSizeof:
		w.put("sizeof")
		n.Kids = []api.Node{w.measured(depth)}
	}
	return written{n, n.Pos}
}

// place writes a place, within parentheses now and then.
func (w *writer) place(depth int) written {
	if w.chance(4) {
		start := w.put("(")
		x := w.place(depth - 1)
		w.put(")")
		return written{x.node, start}
	}
	kinds := []int{api.NodeName, api.NodeIndex, api.NodeField, api.NodeArrow}
	if depth <= 0 {
		kinds = kinds[:1]
	}
	return w.operation(kinds[w.r.Intn(len(kinds))], 13, depth)
}

// measured writes what a sizeof is of.
func (w *writer) measured(depth int) api.Node {
	if w.chance(2) {
		w.put("(")
		n := w.typed()
		w.put(")")
		return n
	}
	from := len(w.tokens)
	x := w.expr(12, depth)
	if x.node.Kind == api.NodeCast && x.start == x.node.Pos {
		w.tokens = w.tokens[:from]
		return w.parens(depth).node
	}
	return x.node
}

func (w *writer) postfix(kind, depth int) written {
	n := api.Node{Kind: kind}
	what := w.expr(13, depth)
	n.Pos, n.Kids = what.start, []api.Node{what.node}
	switch kind {
	case api.NodeIndex:
		w.put("[")
		n.Kids = append(n.Kids, w.expr(0, depth).node)
		w.put("]")
	case api.NodeField:
		n.Str = w.name()
		w.put(".", n.Str)
	case api.NodeArrow:
		n.Str = w.name()
		w.put("->", n.Str)
	}
	return written{n, n.Pos}
}

func (w *writer) leaf(n *api.Node) {
	switch n.Kind {
	case api.NodeNumber:
		n.Num = w.r.Uint32() >> w.r.Intn(32)
		n.Flag = n.Num >= 1<<31 || w.chance(3)
		s := strconv.FormatUint(uint64(n.Num), 10)
		if n.Flag && (n.Num < 1<<31 || w.chance(2)) {
			s += "u"
		}
		w.put(s)
	case api.NodeChar:
		n.Num = uint32(w.r.Intn(256))
		const digits = "0123456789abcdefABCDEF"
		w.put(`'\x` + digits[n.Num>>4:][:1] + digits[n.Num&15:][:1] + "'")
	case api.NodeString:
		for range w.r.Intn(5) {
			n.Str += string(rune(w.r.Intn(128)))
		}
		n.Str += w.oneOf("", "(", ")", ";", "int", "{", "a")
		w.put(lexer.Quote(n.Str))
	case api.NodeName:
		n.Str = w.name()
		w.put(n.Str)
	}
}

func (w *writer) typed() api.Node {
	n := api.Node{Kind: api.NodeType, Str: w.oneOf("int", "uint", "char", "void", "struct "+w.name()), Pos: len(w.tokens)}
	w.put(strings.Fields(n.Str)...)
	return n
}

func (w *writer) exprs(count, depth int) []api.Node {
	var list []api.Node
	for i := range count {
		if i > 0 {
			w.put(",")
		}
		list = append(list, w.expr(0, depth).node)
	}
	return list
}

func (w *writer) program(items int) api.Node {
	n := api.Node{Kind: api.NodeProgram}
	for range items {
		switch w.r.Intn(3) {
		case 0:
			n.Kids = append(n.Kids, w.record())
		case 1:
			n.Kids = append(n.Kids, w.vars(true))
		case 2:
			n.Kids = append(n.Kids, w.function())
		}
	}
	return n
}

func (w *writer) record() api.Node {
	n := api.Node{Kind: api.NodeStruct, Str: w.name(), Pos: w.put("struct")}
	w.put(n.Str, "{")
	for range w.r.Intn(3) {
		n.Kids = append(n.Kids, w.vars(false))
	}
	w.put("}", ";")
	return n
}

func (w *writer) vars(values bool) api.Node {
	n := api.Node{Kind: api.NodeVars, Pos: len(w.tokens), Kids: []api.Node{w.typed()}}
	for i := range 1 + w.r.Intn(3) {
		if i > 0 {
			w.put(",")
		}
		n.Kids = append(n.Kids, w.variable(values))
	}
	w.put(";")
	return n
}

func (w *writer) variable(values bool) api.Node {
	n := api.Node{Kind: api.NodeVar, Str: w.name(), Pos: len(w.tokens), Flag: w.chance(2)}
	w.put(n.Str)
	if n.Flag {
		w.put("[")
		n.Kids = append(n.Kids, w.perhaps())
		w.put("]")
	}
	switch {
	case !values || w.chance(2):
	case n.Flag && w.chance(2):
		w.put("=")
		at := w.put("{")
		n.Kids = append(n.Kids, api.Node{Kind: api.NodeList, Kids: w.exprs(1+w.r.Intn(3), 2), Pos: at})
		w.put("}")
	default:
		w.put("=")
		n.Kids = append(n.Kids, w.expr(0, 3).node)
	}
	return n
}

// perhaps writes an expression, or nothing: the Pos is of the token that comes then.
func (w *writer) perhaps() api.Node {
	if w.chance(2) {
		return api.Node{Kind: api.NodeNone, Pos: len(w.tokens)}
	}
	return w.expr(0, 3).node
}

func (w *writer) function() api.Node {
	n := api.Node{Kind: api.NodeFunc, Str: w.name(), Pos: len(w.tokens), Kids: []api.Node{w.typed()}}
	w.put(n.Str, "(")
	for i := range w.r.Intn(4) {
		if i > 0 {
			w.put(",")
		}
		n.Kids = append(n.Kids, w.param())
	}
	w.put(")")
	n.Kids = append(n.Kids, w.block(3))
	return n
}

func (w *writer) param() api.Node {
	n := api.Node{Kind: api.NodeParam, Str: w.name(), Pos: len(w.tokens), Kids: []api.Node{w.typed()}}
	switch w.r.Intn(3) {
	case 0:
		w.put(n.Str)
	case 1:
		n.Flag = true
		w.put(n.Str, "[", "]")
	case 2:
		n.Num = 1
		w.put("*", n.Str)
	}
	return n
}

func (w *writer) block(depth int) api.Node {
	n := api.Node{Kind: api.NodeBlock, Pos: w.put("{")}
	for range w.r.Intn(4) {
		if w.chance(4) {
			n.Kids = append(n.Kids, w.vars(true))
		} else {
			n.Kids = append(n.Kids, w.statement(false, depth-1))
		}
	}
	w.put("}")
	return n
}

// test writes an expression between a statement's parentheses.
func (w *writer) test() api.Node {
	w.put("(")
	n := w.expr(0, 3).node
	w.put(")")
	return n
}

// statement writes one; closed: an else that comes behind must not belong to it.
func (w *writer) statement(closed bool, depth int) api.Node {
	n := api.Node{Kind: api.NodeBlock + w.r.Intn(api.NodeNone-api.NodeBlock+1), Pos: len(w.tokens)}
	if depth <= 0 {
		n.Kind = []int{api.NodeEval, api.NodeBreak, api.NodeContinue, api.NodeReturn, api.NodeNone}[w.r.Intn(5)]
	}
	switch n.Kind {
	case api.NodeBlock:
		return w.block(depth)
	case api.NodeEval:
		n.Kids = []api.Node{w.expr(0, 4).node}
		w.put(";")
	case api.NodeIf:
		w.put("if")
		n.Kids = []api.Node{w.test()}
		if closed || w.chance(2) {
			n.Kids = append(n.Kids, w.statement(true, depth-1))
			w.put("else")
		}
		n.Kids = append(n.Kids, w.statement(closed, depth-1))
	case api.NodeWhile:
		w.put("while")
		n.Kids = []api.Node{w.test()}
		n.Kids = append(n.Kids, w.statement(closed, depth-1))
	case api.NodeDo:
		w.put("do")
		n.Kids = []api.Node{w.statement(false, depth-1)}
		w.put("while")
		n.Kids = append(n.Kids, w.test())
		w.put(";")
	case api.NodeFor:
		w.put("for", "(")
		first := w.perhaps()
		w.put(";")
		second := w.perhaps()
		w.put(";")
		third := w.perhaps()
		w.put(")")
		n.Kids = []api.Node{first, second, third, w.statement(closed, depth-1)}
	case api.NodeReturn:
		w.put("return")
		if w.chance(2) {
			n.Kids = []api.Node{w.expr(0, 3).node}
		}
		w.put(";")
	case api.NodeBreak:
		w.put("break", ";")
	case api.NodeContinue:
		w.put("continue", ";")
	case api.NodeNone:
		w.put(";")
	}
	return n
}

// laid is the tokens as a source, with blanks and comments between, few or many, and their places.
func (w *writer) laid(many bool) (string, []int) {
	var out strings.Builder
	var places []int
	blanks := []string{" ", "\n", "\t \r\n", "/* ; */", "//}\n", "/**/", " /*/*/ "}
	for i, tok := range w.tokens {
		if many || i > 0 && w.merge(w.tokens[i-1], tok) || w.chance(8) {
			if i > 0 && strings.HasSuffix(w.tokens[i-1], "/") {
				out.WriteString(" ")
			}
			out.WriteString(w.oneOf(blanks...))
		}
		places = append(places, out.Len())
		out.WriteString(tok)
	}
	if many {
		out.WriteString("\n//")
	}
	return out.String(), append(places, out.Len())
}

// merge tells whether two tokens without a blank between would be read as others.
func (w *writer) merge(a, b string) bool {
	tokens, _, e := lexer.All(a + b)
	return e != api.OK || len(tokens) != 3 || tokens[0].End != len(a)
}

// placed is a tree with its tokens' places.
func placed(n api.Node, places []int) api.Node {
	if n.Kind != api.NodeProgram {
		n.Pos = places[n.Pos]
	}
	n.Kids = slices.Clone(n.Kids)
	for i := range n.Kids {
		n.Kids[i] = placed(n.Kids[i], places)
	}
	return n
}

// TestRandomPrograms: the tree and its places are as written (Pa1), however the tokens are laid (Pa4); the tree may be, and its text is read as the same tree (Pa3, As3).
func TestRandomPrograms(t *testing.T) {
	r := rand.New(rand.NewSource(1))
	for range 3000 {
		w := writer{r: r}
		tree := w.program(r.Intn(5))
		for _, many := range []bool{false, true} {
			src, places := w.laid(many)
			reads(t, Parse, reading{src, shown(placed(tree, places))})
		}
		if ast.Check(tree) != api.OK {
			t.Fatalf("a tree that may not be: %s", shown(tree))
		}
		text, e := ast.Print(tree)
		again, p, e2 := Parse(text)
		if e != api.OK || e2 != api.OK || p != 0 || !ast.Same(tree, again) {
			t.Fatalf("%q: %d, %d at %d: %s, not %s", text, e, e2, p, shown(again), shown(tree))
		}
		if t.Failed() {
			return
		}
	}
}

// TestRandomExpressions likewise, of expressions alone (Pa2).
func TestRandomExpressions(t *testing.T) {
	r := rand.New(rand.NewSource(2))
	for range 3000 {
		w := writer{r: r}
		x := w.expr(0, r.Intn(7))
		for _, many := range []bool{false, true} {
			src, places := w.laid(many)
			reads(t, Expression, reading{src, shown(placed(x.node, places))})
		}
		if t.Failed() {
			return
		}
	}
}

// TestOperatorsBesideEachOther has each operator beside each other one, on either side, with parentheses and without.
func TestOperatorsBesideEachOther(t *testing.T) {
	for i, left := range slices.Concat(levels()...) {
		for j, right := range slices.Concat(levels()...) {
			a, b := levelBy(i), levelBy(j)
			first := kindBy(a) + "'" + left
			second := kindBy(b) + "'" + right
			l, k := len(left), len(left)+len(right)
			at := func(s string, p int) string { return s + "@" + strconv.Itoa(p) }
			x := "name'x@0"
			if a >= b {
				reads(t, Expression, reading{"x" + left + "y" + right + "z", at(second, 0) + "(" + at(first, 0) + "(" + x + " " + at("name'y", 1+l) + ") " + at("name'z", 2+k) + ")"})
			} else {
				reads(t, Expression, reading{"x" + left + "y" + right + "z", at(first, 0) + "(" + x + " " + at(second, 1+l) + "(" + at("name'y", 1+l) + " " + at("name'z", 2+k) + "))"})
			}
			reads(t, Expression, reading{"(x" + left + "y)" + right + "z", at(second, 0) + "(" + at(first, 1) + "(name'x@1 " + at("name'y", 2+l) + ") " + at("name'z", 4+k) + ")"})
			reads(t, Expression, reading{"x" + left + "(y" + right + "z)", at(first, 0) + "(" + x + " " + at(second, 2+l) + "(" + at("name'y", 2+l) + " " + at("name'z", 3+k) + "))"})
		}
		for _, sign := range []string{"-", "~", "!", "& ", "(int)", "sizeof "} {
			n, _, e := Expression(sign + "x " + left + " " + sign + "y")
			if e != api.OK || n.Str != left || len(n.Kids) != 2 || n.Kids[0].Pos != 0 || n.Kids[1].Pos != len(sign)+3+len(left) || n.Kids[0].Kind != n.Kids[1].Kind || n.Kids[0].Kind < api.NodeUnary {
				t.Errorf("%s x %s %s y: %d, %s", sign, left, sign, e, shown(n))
			}
			n, _, e = Expression(sign + "(x " + left + " y)")
			if e != api.OK || n.Pos != 0 || n.Kids[len(n.Kids)-1].Str != left {
				t.Errorf("%s (x %s y): %d, %s", sign, left, e, shown(n))
			}
		}
		for src, want := range map[string]string{
			"x" + left + "y?z:u": "cond", "(x" + left + "y)?z:u": "cond", "x" + left + "(y?z:u)": kindBy(levelBy(i)), "z?u:x" + left + "y": "cond", "(z?u:x)" + left + "y": kindBy(levelBy(i)),
			"z=x" + left + "y": "assign", "(z=x)" + left + "y": kindBy(levelBy(i)), "x" + left + "(z=y)": kindBy(levelBy(i)),
		} {
			if n, _, e := Expression(src); e != api.OK || kinds()[n.Kind] != want {
				t.Errorf("%s: %d, %s", src, e, shown(n))
			}
		}
	}
}

// levelBy is the level of the so manieth operator.
func levelBy(i int) int {
	for k, row := range levels() {
		if i < len(row) {
			return k + 2
		}
		i -= len(row)
	}
	return 0
}

func kindBy(level int) string {
	if level < 4 {
		return "logical"
	}
	return "binary"
}

// mark lays something in the spare room of each list of a tree.
func mark(n *api.Node) {
	for i := range n.Kids {
		mark(&n.Kids[i])
	}
	room := n.Kids[len(n.Kids):cap(n.Kids)]
	for i := range room {
		room[i] = api.Node{Kind: -1}
	}
}

// TestOwnMemory: no two lists of an answer, and no two answers, share memory.
func TestOwnMemory(t *testing.T) {
	r := rand.New(rand.NewSource(3))
	for range 50 {
		w := writer{r: r}
		w.program(3)
		src, _ := w.laid(false)
		a, _, _ := Parse(src)
		b, _, _ := Parse(src)
		before := shown(a)
		mark(&b)
		mark(&a)
		if shown(a) != before || shown(b) != before || !reflect.DeepEqual(a, b) {
			t.Fatalf("%q: changed by what was laid behind the lists", src)
		}
		spoil(&b)
		c, _, _ := Parse(src)
		if shown(a) != before || shown(c) != before {
			t.Fatalf("%q: changed by what was laid in another answer", src)
		}
	}
}

func spoil(n *api.Node) {
	for i := range n.Kids {
		spoil(&n.Kids[i])
		n.Kids[i] = api.Node{}
	}
}

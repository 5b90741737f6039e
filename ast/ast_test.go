package ast

import (
	"math/rand"
	"reflect"
	"slices"
	"strings"
	"testing"

	"crucible/api"
)

// The trees of the tests are made by these.

func node(kind int, str string, kids ...api.Node) api.Node {
	return api.Node{Kind: kind, Str: str, Kids: kids}
}

func flagged(n api.Node) api.Node { n.Flag = true; return n }

func numbered(n api.Node, num uint32) api.Node { n.Num = num; return n }

func name(s string) api.Node               { return node(api.NodeName, s) }
func number32(n uint32) api.Node           { return api.Node{Kind: api.NodeNumber, Num: n, Flag: n >= 1<<31} }
func unary(op string, x api.Node) api.Node { return node(api.NodeUnary, op, x) }
func binary(op string, x ...api.Node) api.Node {
	return node(api.NodeBinary, op, x...)
}
func typed(s string) api.Node         { return node(api.NodeType, s) }
func none() api.Node                  { return node(api.NodeNone, "") }
func block(kids ...api.Node) api.Node { return node(api.NodeBlock, "", kids...) }
func vars(kind string, kids ...api.Node) api.Node {
	return node(api.NodeVars, "", append([]api.Node{typed(kind)}, kids...)...)
}
func variable(s string, kids ...api.Node) api.Node {
	return node(api.NodeVar, s, kids...)
}
func array(s string, kids ...api.Node) api.Node { return flagged(variable(s, kids...)) }
func eval(x api.Node) api.Node                  { return node(api.NodeEval, "", x) }
func program(kids ...api.Node) api.Node         { return node(api.NodeProgram, "", kids...) }
func function(kids ...api.Node) api.Node {
	return node(api.NodeFunc, "f", append([]api.Node{typed("int")}, kids...)...)
}

// ofExpression, ofStatement are programs with an expression, a statement.
func ofExpression(x api.Node) api.Node { return program(vars("int", variable("x", x))) }
func ofStatement(x api.Node) api.Node  { return program(function(block(x))) }

// copied is a tree with memory of its own.
func copied(n api.Node) api.Node {
	if n.Kids != nil {
		kids := make([]api.Node, 0, len(n.Kids)+2)
		for _, k := range n.Kids {
			kids = append(kids, copied(k))
		}
		n.Kids = kids
	}
	return n
}

// places gives each node another place.
func places(r *rand.Rand, n api.Node) api.Node {
	n = copied(n)
	n.Pos = r.Intn(1000) - 500
	for i := range n.Kids {
		n.Kids[i] = places(r, n.Kids[i])
	}
	return n
}

// treeOfAll has each kind of node.
func treeOfAll() api.Node {
	a, b, c := name("a"), name("b"), name("c")
	return program(
		node(api.NodeStruct, "s", vars("int", variable("v"), array("w", number32(3)))),
		vars("struct s", variable("g")),
		vars("int", array("h", none(), node(api.NodeList, "", number32(1), number32(1<<31)))),
		node(api.NodeFunc, "f", typed("void"),
			numbered(node(api.NodeParam, "p", typed("struct s")), 1),
			flagged(node(api.NodeParam, "q", typed("char"))),
			block(
				vars("uint", variable("x", node(api.NodeSizeof, "", typed("int")))),
				node(api.NodeIf, "", node(api.NodeLogical, "&&", a, b), node(api.NodeBreak, ""), node(api.NodeContinue, "")),
				node(api.NodeWhile, "", node(api.NodeCond, "", a, b, c), none()),
				node(api.NodeDo, "", block(), unary("!", a)),
				node(api.NodeFor, "", none(), binary("<", a, b), none(), eval(node(api.NodeCall, "putbyte", numbered(node(api.NodeChar, ""), 65)))),
				eval(node(api.NodeAssign, "+=", node(api.NodeIndex, "", a, b), node(api.NodeCast, "", typed("char"), c))),
				eval(node(api.NodeCall, "h", node(api.NodeString, "text"), node(api.NodeField, "v", a), node(api.NodeArrow, "v", b))),
				node(api.NodeReturn, ""),
			)))
}

const textOfAll = `struct s {
int v, w[3];
};
struct s g;
int h[] = {1, 2147483648u};
void f(struct s *p, char q[]) {
uint x = sizeof(int);
if (a && b)
break;
else
continue;
while (a ? b : c)
;
do
{
}
while (!a);
for (; a < b; )
putbyte('\x41');
a[b] += (char)c;
h("text", a.v, b->v);
return;
}
`

// chain is a tree of just so many nodes, as deep as can be.
func chain(nodes int) api.Node {
	// Beside these: a NodeProgram, a NodeVars, a NodeType, a NodeVar.
	x := name("a")
	for range nodes - 5 {
		x = unary("~", x)
	}
	return ofExpression(x)
}

// wide is a tree of just so many nodes, with as many kids in one row as can be.
func wide(nodes int) api.Node {
	row := make([]api.Node, nodes-5)
	for i := range row {
		row[i] = name("a")
	}
	return ofExpression(node(api.NodeCall, "f", row...))
}

// endless is a tree that leads back to itself, by a kind of node and where among its kids it comes again.
func endless(kind int, str string, at int, kids ...api.Node) api.Node {
	kids = slices.Clone(kids)
	kids[at] = node(kind, str)
	kids[at].Kids = kids
	return node(kind, str, kids...)
}

// doubled is a tree whose every node stands twice: 2^n of them in few bytes.
func doubled(n int) api.Node {
	x := name("a")
	for range n {
		x = binary("+", x, x)
	}
	return ofExpression(x)
}

func TestDepthAndSize(t *testing.T) {
	for _, k := range []struct {
		n           api.Node
		depth, size int
	}{
		{program(), 1, 1},
		{api.Node{}, 1, 1},
		{api.Node{Kids: []api.Node{}}, 1, 1},
		{node(-3, "no node", api.Node{}, node(7, "", api.Node{})), 3, 4},
		{ofExpression(binary("+", name("a"), name("b"))), 5, 7},
		{binary("+", name("a"), unary("-", unary("-", name("b")))), 4, 5},
		{binary("+", unary("-", unary("-", name("b"))), name("a")), 4, 5},
		{node(api.NodeCond, "", name("a"), unary("-", unary("-", name("b"))), unary("!", name("c"))), 4, 7},
		{treeOfAll(), 7, 70},
		{doubled(10), 14, 4 + 1<<11 - 1},
		{doubled(16), 20, 4 + 1<<17 - 1},
		{doubled(17), 0, 0},
		{chain(1 << 18), 1<<18 - 1, 1 << 18},
		{wide(1 << 18), 5, 1 << 18},
	} {
		if d, s := Depth(k.n), Size(k.n); d != k.depth || s != k.size {
			t.Errorf("kind %d: Depth %d, Size %d, not %d, %d", k.n.Kind, d, s, k.depth, k.size)
		}
	}
}

// greater are trees of more than 2^18 nodes.
func greater() []api.Node {
	a := name("a")
	return []api.Node{
		chain(1<<18 + 1), wide(1<<18 + 1), wide(1 << 20), doubled(17), doubled(18), doubled(60),
		program(function(block(endless(api.NodeWhile, "", 1, a, a)))),
		program(function(block(node(api.NodeIf, "", a, endless(api.NodeWhile, "", 1, a, a), none())))),
		program(function(block(node(api.NodeIf, "", a, endless(api.NodeIf, "", 2, a, none(), none()), none())))),
		ofExpression(endless(api.NodeUnary, "-", 0, a)),
		ofExpression(endless(api.NodeBinary, "+", 1, a, a)),
		ofExpression(endless(api.NodeCall, "f", 2, a, a, a, a)),
		endless(api.NodeProgram, "", 0, program()),
	}
}

func TestGreaterTrees(t *testing.T) {
	for i, n := range greater() {
		if d, s := Depth(n), Size(n); d != 0 || s != 0 {
			t.Errorf("%d: Depth %d, Size %d", i, d, s)
		}
		if e := Check(n); e != api.ErrTree {
			t.Errorf("%d: Check %d", i, e)
		}
		if s, e := Print(n); s != "" || e != api.ErrTree {
			t.Errorf("%d: Print %d bytes, %d", i, len(s), e)
		}
		// Of these nothing is promised but an end; a lesser tree is another one in any case.
		Same(n, n)
		if Same(n, program()) || Same(treeOfAll(), n) || Same(n, chain(1<<18)) {
			t.Errorf("%d: the same as a lesser one", i)
		}
	}
}

func TestGreatestTrees(t *testing.T) {
	for i, n := range []api.Node{chain(1 << 18), wide(1 << 18)} {
		if e := Check(n); e != api.OK {
			t.Errorf("%d: Check %d", i, e)
		}
		if !Same(n, copied(n)) {
			t.Errorf("%d: not the same as its copy", i)
		}
	}
	if s, e := Print(chain(1 << 18)); e != api.OK || s != "int x = "+strings.Repeat("~ ", 1<<18-6)+"~a;\n" {
		t.Errorf("the deepest: %d bytes, %d", len(s), e)
	}
	if s, e := Print(wide(1 << 18)); e != api.OK || s != "int x = f("+strings.Repeat("a, ", 1<<18-6)+"a);\n" {
		t.Errorf("the widest: %d bytes, %d", len(s), e)
	}
}

// TestDeepOfEachKind has trees deeper than any calls within calls should go, by each kind of node that nests.
func TestDeepOfEachKind(t *testing.T) {
	a, many := name("a"), 1<<16
	nest := func(x api.Node, by func(x api.Node) api.Node, n int) api.Node {
		for range n {
			x = by(x)
		}
		return x
	}
	for _, k := range []struct {
		n    api.Node
		want string
	}{
		{ofExpression(nest(a, func(x api.Node) api.Node { return binary("-", x, a) }, many)), "int x = a" + strings.Repeat(" - a", many) + ";\n"},
		{ofExpression(nest(a, func(x api.Node) api.Node { return binary("-", a, x) }, many)), "int x = " + strings.Repeat("a - (", many-1) + "a - a" + strings.Repeat(")", many-1) + ";\n"},
		{ofExpression(nest(a, func(x api.Node) api.Node { return node(api.NodeIndex, "", x, a) }, many)), "int x = a" + strings.Repeat("[a]", many) + ";\n"},
		{ofExpression(nest(a, func(x api.Node) api.Node { return node(api.NodeCall, "f", x) }, many)), "int x = " + strings.Repeat("f(", many) + "a" + strings.Repeat(")", many) + ";\n"},
		{ofExpression(nest(a, func(x api.Node) api.Node { return node(api.NodeField, "f", x) }, many)), "int x = a" + strings.Repeat(".f", many) + ";\n"},
		{ofExpression(nest(a, func(x api.Node) api.Node { return node(api.NodeAssign, "=", a, x) }, many)), "int x = " + strings.Repeat("a = ", many) + "a;\n"},
		{ofExpression(nest(a, func(x api.Node) api.Node { return node(api.NodeCast, "", typed("int"), x) }, many)), "int x = " + strings.Repeat("(int)", many) + "a;\n"},
		{ofStatement(nest(block(), func(x api.Node) api.Node { return block(x) }, many)), "int f() {\n" + strings.Repeat("{\n", many+1) + strings.Repeat("}\n", many+2)},
		{ofStatement(nest(none(), func(x api.Node) api.Node { return node(api.NodeIf, "", a, x) }, many)), "int f() {\n" + strings.Repeat("if (a)\n", many) + ";\n}\n"},
		{ofStatement(nest(none(), func(x api.Node) api.Node { return node(api.NodeIf, "", a, x, none()) }, many)), "int f() {\n" + strings.Repeat("if (a)\n", many) + ";\n" + strings.Repeat("else\n;\n", many) + "}\n"},
		{ofStatement(nest(none(), func(x api.Node) api.Node { return node(api.NodeIf, "", a, none(), x) }, many)), "int f() {\n" + strings.Repeat("if (a)\n;\nelse\n", many) + ";\n}\n"},
		{ofStatement(nest(none(), func(x api.Node) api.Node { return node(api.NodeWhile, "", a, x) }, many)), "int f() {\n" + strings.Repeat("while (a)\n", many) + ";\n}\n"},
		{ofStatement(nest(none(), func(x api.Node) api.Node { return node(api.NodeDo, "", x, a) }, many)), "int f() {\n" + strings.Repeat("do\n", many) + ";\n" + strings.Repeat("while (a);\n", many) + "}\n"},
		{ofStatement(nest(none(), func(x api.Node) api.Node { return node(api.NodeFor, "", none(), none(), none(), x) }, many/2)), "int f() {\n" + strings.Repeat("for (; ; )\n", many/2) + ";\n}\n"},
	} {
		if s, e := Print(k.n); s != k.want || e != api.OK {
			t.Errorf("%.40q, %d, not %.40q", s, e, k.want)
		}
	}
}

func TestSame(t *testing.T) {
	r := rand.New(rand.NewSource(1))
	whole := treeOfAll()
	if !Same(whole, whole) || !Same(whole, copied(whole)) || !Same(whole, places(r, whole)) {
		t.Error("a tree is not the same as itself")
	}
	if !Same(api.Node{Kind: 5}, api.Node{Kind: 5, Kids: []api.Node{}, Pos: 7}) || !Same(api.Node{}, api.Node{}) || !Same(node(-1, "x"), node(-1, "x")) {
		t.Error("nodes that are alike are not the same")
	}
	for i := range Size(whole) {
		for j, change := range []func(n *api.Node){
			func(n *api.Node) { n.Kind++ },
			func(n *api.Node) { n.Kind = -n.Kind },
			func(n *api.Node) { n.Str += "x" },
			func(n *api.Node) { n.Num++ },
			func(n *api.Node) { n.Num ^= 1 << 31 },
			func(n *api.Node) { n.Flag = !n.Flag },
			func(n *api.Node) { n.Kids = append(n.Kids, api.Node{}) },
			func(n *api.Node) { n.Kids = append([]api.Node{{}}, n.Kids...) },
			func(n *api.Node) { n.Kids = append(n.Kids, none()) },
		} {
			other := copied(whole)
			change(nth(&other, &i))
			if Same(whole, other) || Same(other, whole) {
				t.Fatalf("change %d of a node is not seen", j)
			}
		}
		at := i
		other := copied(whole)
		n := nth(&other, &at)
		n.Pos = 1 << 40
		if !Same(whole, other) || !Same(other, whole) {
			t.Fatal("a place is seen")
		}
		if len(n.Kids) > 0 {
			n.Kids = n.Kids[1:]
			if Same(whole, other) || Same(other, whole) {
				t.Fatal("a kid less is not seen")
			}
		}
	}
}

// nth is a tree's i-th node, kids behind their parents.
func nth(n *api.Node, i *int) *api.Node {
	at := *i
	return count(n, &at)
}

func count(n *api.Node, left *int) *api.Node {
	if *left == 0 {
		return n
	}
	*left--
	for i := range n.Kids {
		if found := count(&n.Kids[i], left); found != nil {
			return found
		}
	}
	return nil
}

// TestSameShape has trees of the same nodes in another order, or with kids at another parent.
func TestSameShape(t *testing.T) {
	a, b := name("a"), name("b")
	for _, k := range [][2]api.Node{
		{block(eval(a), eval(b)), block(eval(b), eval(a))},
		{block(block(none()), block()), block(block(), block(none()))},
		{block(block(block()), block()), block(block(), block(block()))},
		{block(block(block())), block(block(), block())},
		{block(none()), block(block(none()))},
	} {
		if Same(k[0], k[1]) || Same(k[1], k[0]) {
			t.Errorf("%v and %v", k[0], k[1])
		}
		if !Same(k[0], copied(k[0])) || !Same(k[1], copied(k[1])) {
			t.Errorf("%v or %v and its copy", k[0], k[1])
		}
	}
}

// TestOneText: trees that are the same but for places have one text, one Depth, one Size.
func TestOneText(t *testing.T) {
	r := rand.New(rand.NewSource(2))
	for range 300 {
		n := randomProgram(r)
		m := places(r, n)
		s, e := Print(n)
		if e != api.OK || !Same(n, m) {
			t.Fatalf("%d: not the same: %v", e, n)
		}
		if s2, e := Print(m); s2 != s || e != api.OK || Depth(n) != Depth(m) || Size(n) != Size(m) {
			t.Fatalf("%q, %q, %d", s, s2, e)
		}
	}
}

// TestNothingIsChanged: what is handed in, and the room behind a list's end, stays.
func TestNothingIsChanged(t *testing.T) {
	r := rand.New(rand.NewSource(3))
	for range 50 {
		n := copied(randomProgram(r))
		mark(&n)
		before := copied(n)
		mark(&before)
		Check(n)
		Print(n)
		Same(n, n)
		Depth(n)
		Size(n)
		if !reflect.DeepEqual(spare(n), spare(before)) {
			t.Fatal("a tree was changed")
		}
	}
}

// mark lays something in the room behind each list's end.
func mark(n *api.Node) {
	for i := range n.Kids {
		mark(&n.Kids[i])
	}
	room := n.Kids[len(n.Kids):cap(n.Kids)]
	for i := range room {
		room[i] = name("spare")
	}
}

// spare is a tree with the room behind each list's end.
func spare(n api.Node) api.Node {
	n.Kids = slices.Clone(n.Kids[:cap(n.Kids)])
	for i := range n.Kids {
		n.Kids[i] = spare(n.Kids[i])
	}
	return n
}

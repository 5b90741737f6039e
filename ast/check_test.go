package ast

import (
	"regexp"
	"strings"
	"testing"

	"crucible/api"
)

// Letters for what stands among a node's kids: p a place, e another expression, t a type, n a NodeNone,
// i a statement with an open end, s another statement, v a NodeVars without initial values, w one with,
// a NodeVar is x, a NodeList l, a NodeParam r, a NodeBlock b, a NodeStruct c, a NodeFunc f, a NodeProgram m, a kind that is none z.
func standsFor(letter byte) api.Node {
	a := name("a")
	switch letter {
	case 'p':
		return a
	case 'e':
		return number32(7)
	case 't':
		return typed("int")
	case 'n':
		return none()
	case 'i':
		return node(api.NodeIf, "", a, none())
	case 's':
		return node(api.NodeBreak, "")
	case 'v':
		return vars("int", variable("y"), array("y", a), array("y", none()))
	case 'w':
		return vars("int", variable("y"), variable("y", a))
	case 'x':
		return variable("y")
	case 'l':
		return node(api.NodeList, "", a)
	case 'r':
		return node(api.NodeParam, "y", typed("int"))
	case 'b':
		return block()
	case 'c':
		return node(api.NodeStruct, "y")
	case 'f':
		return function(block())
	case 'm':
		return program()
	}
	return node(17, "")
}

const letters = "petnisvwxlrbcfmz"

// rules are the document's: what Kids (as letters), Str, Num and Flag may be.
// A NodeVar and a NodeParam with Flag, and a NodeParam with Num 1, stand apart.
type rule struct {
	node    api.Node // its Kind, Num and Flag
	kids    string
	strs    string // those of someStrs that may be
	nums    string // those of someNums
	flag    bool   // whether Flag may be the other one
	example string // kids that may be
}

// someStrs, by letters; n is a name.
func someStrs() map[byte][]string {
	return map[byte][]string{
		'0': {""},
		'n': {"a", "Z", "_", "x9", "abc_DEF", "ints", "main", "Struct", "structa", "float", "long", strings.Repeat("long", 100)},
		'g': {"getbyte", "putbyte"},
		'k': {"break", "continue", "do", "else", "for", "if", "return", "sizeof", "struct", "while"},
		't': {"int", "uint", "char", "void"},
		's': {"struct a", "struct _9"},
		'-': {"-"}, '&': {"&"},
		'~': {"~", "!"},
		'b': {"*", "/", "%", "+", "<<", ">>", "<", ">", "<=", ">=", "==", "!=", "^", "|"},
		'l': {"&&", "||"},
		'=': {"=", "+=", "-=", "*=", "/=", "%=", "&=", "|=", "^=", "<<=", ">>="},
		'x': {"9a", " ", "a ", " a", "a b", "a-b", "ä", "a\x00", "\xff", "struct", "struct ", "struct  a", "struct int", "struct getbyte", "struct 9", "struct a ", "struct\ta", " struct a", "Struct a",
			"int ", "- ", "--", "++", "&&&", "===", "=>", "=<", "<>", "~=", "!==", "&&=", "||=", ",", "?", ".", "->", "(", "sizeof "},
	}
}

func someNums() map[byte]uint32 {
	return map[byte]uint32{'0': 0, '1': 1, '2': 2, 'a': 128, 'b': 255, 'c': 256, 'd': 1<<31 - 1, 'e': 1 << 31, 'f': 1<<32 - 1}
}

func kindOf(kind int) api.Node { return api.Node{Kind: kind} }

func rules() []rule {
	return []rule{
		{kindOf(api.NodeNumber), "", "0", "012abcd", true, ""},
		{flagged(kindOf(api.NodeNumber)), "", "0", "012abcdef", true, ""},
		{kindOf(api.NodeChar), "", "0", "012ab", false, ""},
		{kindOf(api.NodeString), "", "0ngkts-&~bl=x", "0", false, ""},
		{kindOf(api.NodeName), "", "n", "0", false, ""},
		{kindOf(api.NodeIndex), "[pe][pe]", "0", "0", false, "pe"},
		{kindOf(api.NodeField), "[pe]", "n", "0", false, "p"},
		{kindOf(api.NodeArrow), "[pe]", "n", "0", false, "e"},
		{kindOf(api.NodeCall), "[pe]*", "ng", "0", false, ""},
		{kindOf(api.NodeUnary), "[pe]", "-&~", "0", false, "p"},
		{kindOf(api.NodeBinary), "[pe][pe]", "-&b", "0", false, "pp"},
		{kindOf(api.NodeLogical), "[pe][pe]", "l", "0", false, "pp"},
		{kindOf(api.NodeCond), "[pe][pe][pe]", "0", "0", false, "ppp"},
		{kindOf(api.NodeAssign), "p[pe]", "=", "0", false, "pp"},
		{kindOf(api.NodeCast), "t[pe]", "0", "0", false, "tp"},
		{kindOf(api.NodeSizeof), "[tpe]", "0", "0", false, "t"},
		{kindOf(api.NodeType), "", "ts", "0", false, ""},
		{kindOf(api.NodeStruct), "v*", "n", "0", false, "v"},
		{kindOf(api.NodeVars), "tx+", "0", "0", false, "tx"},
		{kindOf(api.NodeVar), "[pe]?", "n", "0", true, "p"},
		{flagged(kindOf(api.NodeVar)), "[pen][pel]?", "n", "0", true, "p"},
		{kindOf(api.NodeList), "[pe]+", "0", "0", false, "p"},
		{kindOf(api.NodeFunc), "tr*b", "n", "0", false, "tb"},
		{kindOf(api.NodeParam), "t", "n", "01", true, "t"},
		{flagged(kindOf(api.NodeParam)), "t", "n", "0", true, "t"},
		{numbered(kindOf(api.NodeParam), 1), "t", "n", "01", false, "t"},
		{kindOf(api.NodeBlock), "[nisbvw]*", "0", "0", false, ""},
		{kindOf(api.NodeEval), "[pe]", "0", "0", false, "p"},
		{kindOf(api.NodeIf), "[pe][nisb]|[pe][nsb][nisb]", "0", "0", false, "pn"},
		{kindOf(api.NodeWhile), "[pe][nisb]", "0", "0", false, "pn"},
		{kindOf(api.NodeDo), "[nisb][pe]", "0", "0", false, "np"},
		{kindOf(api.NodeFor), "[pen][pen][pen][nisb]", "0", "0", false, "pppn"},
		{kindOf(api.NodeBreak), "", "0", "0", false, ""},
		{kindOf(api.NodeContinue), "", "0", "0", false, ""},
		{kindOf(api.NodeReturn), "[pe]?", "0", "0", false, ""},
		{kindOf(api.NodeNone), "", "0", "0", false, ""},
	}
}

// wrapped is a program with a node where its kind may stand: near the root, or deep inside.
func wrapped(n api.Node, deep bool) api.Node {
	if deep {
		return ofStatement(block(block(node(api.NodeIf, "", name("a"), block(node(api.NodeWhile, "", name("b"), block(statementOf(n))))))))
	}
	if declares(n.Kind) {
		return program(declarationOf(n))
	}
	return ofStatement(statementOf(n))
}

func declares(kind int) bool {
	return kind == api.NodeStruct || kind == api.NodeFunc || kind == api.NodeVars || kind == api.NodeVar || kind == api.NodeList || kind == api.NodeParam
}

func declarationOf(n api.Node) api.Node {
	switch n.Kind {
	case api.NodeVar:
		return vars("int", n)
	case api.NodeList:
		return vars("int", variable("x"), array("y", none(), n))
	case api.NodeParam:
		return function(n, block())
	}
	return n
}

func statementOf(n api.Node) api.Node {
	switch n.Kind {
	case api.NodeType:
		return eval(node(api.NodeCast, "", n, name("a")))
	case api.NodeVars, api.NodeVar, api.NodeList:
		return declarationOf(n)
	case api.NodeBlock, api.NodeEval, api.NodeIf, api.NodeWhile, api.NodeDo, api.NodeFor, api.NodeBreak, api.NodeContinue, api.NodeReturn, api.NodeNone:
		return n
	}
	return eval(binary("+", name("a"), unary("-", n)))
}

// holds asks Check, and Print, whether a tree may be.
func holds(t *testing.T, n api.Node, want bool) {
	t.Helper()
	e := Check(n)
	s, e2 := Print(n)
	if want && (e != api.OK || e2 != api.OK) || !want && (e != api.ErrTree || e2 != api.ErrTree || s != "") {
		t.Fatalf("Check %d, Print %.100q, %d: may be: %v: %v", e, s, e2, want, n)
	}
}

// first is a text that a rule lets be.
func (r rule) first() string { return someStrs()[r.strs[0]][0] }

func rowOf(row string) []api.Node {
	var kids []api.Node
	for i := range len(row) {
		kids = append(kids, standsFor(row[i]))
	}
	return kids
}

// TestKids lays all short rows of kids in each kind of node.
func TestKids(t *testing.T) {
	rows := []string{""}
	for at := 0; len(rows[at]) < 3; at++ {
		for i := range len(letters) {
			rows = append(rows, rows[at]+letters[i:i+1])
		}
	}
	// Four and more just near what may be.
	for _, head := range []string{"ppp", "nnn", "nen", "pen", "tee", "txx", "trr", "trb", "vvv", "eee", "ssn", "pns", "tbb", "trx"} {
		for i := range len(letters) {
			rows = append(rows, head+letters[i:i+1], head[:1]+letters[i:i+1]+head[1:], head+letters[i:i+1]+"n", head+"s"+letters[i:i+1])
		}
	}
	kids := map[string][]api.Node{}
	for _, row := range rows {
		kids[row] = rowOf(row)
	}
	for _, r := range rules() {
		pattern := regexp.MustCompile("^(" + r.kids + ")$")
		deep := !declares(r.node.Kind)
		for _, row := range rows {
			n := r.node
			n.Str, n.Kids = r.first(), kids[row]
			holds(t, wrapped(n, deep && len(row) > 2), pattern.MatchString(row))
		}
	}
	for _, row := range rows {
		may := !strings.ContainsAny(row, "petnisxlrbmz")
		holds(t, program(kids[row]...), may)
	}
}

// TestFields lays all sorts of Str, Num and Flag in each kind of node.
func TestFields(t *testing.T) {
	for _, r := range rules() {
		n := r.node
		n.Kids = rowOf(r.example)
		for letter, strs := range someStrs() {
			for _, s := range strs {
				n.Str = s
				holds(t, wrapped(n, false), strings.IndexByte(r.strs, letter) >= 0)
			}
		}
		n.Str = r.first()
		for letter, num := range someNums() {
			n.Num = num
			holds(t, wrapped(n, false), strings.IndexByte(r.nums, letter) >= 0)
			holds(t, wrapped(n, r.node.Kind < api.NodeType), strings.IndexByte(r.nums, letter) >= 0)
		}
		n.Num = r.node.Num
		n.Flag = !n.Flag
		holds(t, wrapped(n, false), r.flag)
		n.Flag = r.node.Flag
		n.Pos = -1 << 60
		holds(t, wrapped(n, false), true)
		n.Kids = append([]api.Node{}, n.Kids...)
		holds(t, wrapped(n, false), true)
	}
	holds(t, program(), true)
	holds(t, api.Node{Kind: api.NodeProgram, Pos: 9, Kids: []api.Node{}}, true)
	holds(t, node(api.NodeProgram, "p"), false)
	holds(t, numbered(program(), 1), false)
	holds(t, flagged(program()), false)
}

// TestKinds has kinds that are none, and roots that are no NodeProgram.
func TestKinds(t *testing.T) {
	for kind := -5; kind < 300; kind++ {
		n := kindOf(kind)
		known := kind == api.NodeProgram
		holds(t, n, known)
		for _, r := range rules() {
			if r.node.Kind == kind {
				n = r.node
				n.Str, n.Kids = r.first(), rowOf(r.example)
				holds(t, n, false)
				known = true
			}
		}
		if !known || kind == api.NodeProgram {
			holds(t, ofExpression(n), false)
			holds(t, ofStatement(n), false)
			holds(t, ofExpression(unary("-", node(api.NodeIndex, "", name("a"), n))), false)
			holds(t, program(treeOfAll().Kids[0], n), false)
		}
	}
	for _, kind := range []int{-1 << 63, 1<<63 - 1, 1<<32 + api.NodeName, 256 + api.NodeName} {
		holds(t, ofExpression(node(kind, "a")), false)
	}
}

// TestWrongAnywhere spoils a tree of all kinds at each of its nodes.
func TestWrongAnywhere(t *testing.T) {
	whole := treeOfAll()
	holds(t, whole, true)
	for i := range Size(whole) {
		for _, spoil := range []func(n *api.Node){
			func(n *api.Node) { n.Kind = 0 },
			func(n *api.Node) { n.Kind = 39 },
			func(n *api.Node) { n.Kind = 57 },
			func(n *api.Node) { n.Kids = append(n.Kids, program()) },
			func(n *api.Node) { n.Kids = append(n.Kids, api.Node{}) },
			func(n *api.Node) {
				n.Num = 1 << 30
				n.Flag = !n.Flag && n.Kind == api.NodeNumber
				n.Kids = append(n.Kids, name("a"), typed("int"))
			},
		} {
			other := copied(whole)
			spoil(nth(&other, &i))
			holds(t, other, false)
		}
		other := copied(whole)
		n := nth(&other, &i)
		if n.Kind != api.NodeString {
			n.Str += "\n"
			holds(t, other, false)
		}
	}
}

// TestOpenEnds: of a NodeIf of three kids the second one has no open end.
func TestOpenEnds(t *testing.T) {
	a := name("a")
	open := node(api.NodeIf, "", a, none())
	whole := node(api.NodeIf, "", a, none(), none())
	while := func(x api.Node) api.Node { return node(api.NodeWhile, "", a, x) }
	loop := func(x api.Node) api.Node { return node(api.NodeFor, "", none(), none(), none(), x) }
	do := func(x api.Node) api.Node { return node(api.NodeDo, "", x, a) }
	both := func(x, y api.Node) api.Node { return node(api.NodeIf, "", a, x, y) }
	for _, k := range []struct {
		n   api.Node
		may bool
	}{
		{open, false}, {whole, true}, {none(), true}, {block(open), true}, {do(open), true}, {do(while(open)), true},
		{while(open), false}, {while(whole), true}, {while(none()), true}, {while(block(open)), true},
		{loop(open), false}, {loop(whole), true}, {loop(do(open)), true},
		{node(api.NodeIf, "", a, whole), false},
		{both(none(), open), false}, {both(none(), whole), true}, {both(none(), while(open)), false}, {both(none(), loop(while(open))), false},
		{both(block(open), none()), true}, {both(block(open), block(open)), true}, {both(none(), both(none(), open)), false}, {both(none(), both(none(), do(open))), true},
		{while(loop(both(none(), while(open)))), false}, {while(loop(both(none(), while(whole)))), true},
	} {
		holds(t, ofStatement(both(k.n, none())), k.may)
		holds(t, ofStatement(both(k.n, k.n)), k.may)
		holds(t, ofStatement(both(none(), k.n)), true)
		holds(t, ofStatement(node(api.NodeIf, "", a, k.n)), true)
		holds(t, ofStatement(while(do(both(k.n, none())))), k.may)
		holds(t, ofStatement(do(k.n)), true)
	}
	// What may not be within the second one ends the asking, too.
	for _, bad := range []api.Node{node(api.NodeWhile, ""), node(api.NodeFor, ""), node(api.NodeIf, ""), while(node(api.NodeIf, "", a)), while(node(api.NodeIf, "", a, a, a, a)), kindOf(0)} {
		holds(t, ofStatement(both(bad, none())), false)
	}
}

// TestFieldsOfStructs: in a NodeStruct nothing has an initial value.
func TestFieldsOfStructs(t *testing.T) {
	a, list := name("a"), node(api.NodeList, "", name("a"))
	for _, k := range []struct {
		v                 api.Node
		inside, elsewhere bool
	}{
		{variable("y"), true, true}, {variable("y", a), false, true}, {array("y", a), true, true}, {array("y", none()), true, true},
		{array("y", a, a), false, true}, {array("y", none(), list), false, true}, {variable("y", list), false, false}, {variable("y", none()), false, false},
		{array("y"), false, false}, {array("y", list), false, false}, {array("y", a, none()), false, false}, {array("y", a, list, a), false, false}, {variable("y", a, a), false, false},
	} {
		for _, row := range [][]api.Node{{k.v}, {variable("z"), k.v}, {k.v, variable("z")}, {variable("z"), k.v, array("z", a)}} {
			holds(t, program(node(api.NodeStruct, "s", vars("int", variable("b")), vars("char", row...), vars("int", variable("c")))), k.inside)
			holds(t, program(vars("char", row...)), k.elsewhere)
			holds(t, ofStatement(vars("char", row...)), k.elsewhere)
		}
	}
}

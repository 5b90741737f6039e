package lower

import (
	"testing"

	"crucible/api"
	"crucible/check"
)

// Trees that layer 12 is handed may be as deep as they have nodes, which sources' are not.

func node(kind int, text string, kids ...api.Node) api.Node {
	return api.Node{Kind: kind, Str: text, Kids: kids}
}

func numberNode(x uint32) api.Node { return api.Node{Kind: api.NodeNumber, Num: x} }

func nameNode(name string) api.Node { return node(api.NodeName, name) }

func typeNode(name string) api.Node { return node(api.NodeType, name) }

// nested is a node around which another one is laid again and again.
func nested(times int, inner api.Node, around func(n api.Node) api.Node) api.Node {
	for range times {
		inner = around(inner)
	}
	return inner
}

// treeOf is the checked program of a global x, which is 3, a function f, which tells its argument, and a main.
func treeOf(t *testing.T, statements ...api.Node) api.Checked {
	t.Helper()
	x := node(api.NodeVars, "", typeNode("int"), node(api.NodeVar, "x", numberNode(3)))
	f := node(api.NodeFunc, "f", typeNode("int"), node(api.NodeParam, "a", typeNode("int")), node(api.NodeBlock, "", node(api.NodeReturn, "", nameNode("a"))))
	y := node(api.NodeVars, "", typeNode("int"), node(api.NodeVar, "y", numberNode(4)))
	body := append([]api.Node{y}, statements...)
	main := node(api.NodeFunc, "main", typeNode("int"), node(api.NodeBlock, "", append(body, node(api.NodeReturn, "", nameNode("y")))...))
	c, d, ok := check.Check(node(api.NodeProgram, "", x, f, main))
	if !ok {
		t.Fatalf("refused: %+v", d)
	}
	return c
}

// statementOf has an expression become y.
func statementOf(n api.Node) api.Node {
	return node(api.NodeEval, "", node(api.NodeAssign, "=", nameNode("y"), n))
}

// Lo1 and Lo2: terms as deep as 2^18 nodes can be.
func TestDeepTerms(t *testing.T) {
	unary := func(sign string) func(n api.Node) api.Node {
		return func(n api.Node) api.Node { return node(api.NodeUnary, sign, n) }
	}
	cast := func(n api.Node) api.Node {
		return node(api.NodeCast, "", typeNode("uint"), node(api.NodeCast, "", typeNode("int"), n))
	}
	call := func(n api.Node) api.Node { return node(api.NodeCall, "f", n) }
	assign := func(n api.Node) api.Node { return node(api.NodeAssign, "=", nameNode("y"), n) }
	add := func(n api.Node) api.Node { return node(api.NodeBinary, "+", nameNode("y"), n) }
	addLeft := func(n api.Node) api.Node { return node(api.NodeBinary, "+", n, nameNode("y")) }
	and := func(n api.Node) api.Node { return node(api.NodeLogical, "&&", nameNode("x"), n) }
	or := func(n api.Node) api.Node { return node(api.NodeLogical, "||", n, numberNode(0)) }
	for name, k := range map[string]struct {
		deep int
		node api.Node
		want int32
	}{
		"signs":       {30000, nested(30000, nameNode("y"), unary("-")), 4},
		"casts":       {60000, nested(60000, nameNode("y"), cast), 4},
		"calls":       {60000, nested(60000, nameNode("y"), call), 4},
		"assignments": {60000, nested(60000, numberNode(7), assign), 7},
		"sums":        {60000, nested(60000, numberNode(1), add), 240001},
		"left sums":   {60000, nested(60000, numberNode(1), addLeft), 240001},
		"all":         {1300, nested(1300, numberNode(9), and), 1},
		"one":         {1300, nested(1300, nameNode("x"), or), 1},
	} {
		c := treeOf(t, statementOf(k.node))
		p := made(t, name, c)
		if _, b := held(t, name, c, p, "", 10_000_000, 100); b != exit(k.want, "") {
			t.Errorf("%s: %+v", name, b)
		}
	}
	refusedAsFull(t, "too many signs", treeOf(t, statementOf(nested(120000, nameNode("y"), unary("-")))))
	refusedAsFull(t, "too many calls", treeOf(t, statementOf(nested(120000, nameNode("y"), call))))
	refusedAsFull(t, "too many that all hold", treeOf(t, statementOf(nested(80000, nameNode("y"), and))))
	refusedAsFull(t, "too many of which one holds", treeOf(t, statementOf(nested(80000, nameNode("y"), or))))
}

// Lo1 and Lo2: statements as deep as 2^18 nodes can be.
func TestDeepStatements(t *testing.T) {
	none := node(api.NodeNone, "")
	put := statementOf(node(api.NodeBinary, "+", nameNode("y"), numberNode(1)))
	block := func(n api.Node) api.Node { return node(api.NodeBlock, "", n) }
	choice := func(n api.Node) api.Node { return node(api.NodeIf, "", nameNode("x"), n) }
	other := func(n api.Node) api.Node { return node(api.NodeIf, "", numberNode(0), none, n) }
	while := func(n api.Node) api.Node {
		return node(api.NodeWhile, "", nameNode("x"), node(api.NodeBlock, "", n, node(api.NodeBreak, "")))
	}
	do := func(n api.Node) api.Node { return node(api.NodeDo, "", n, numberNode(0)) }
	count := func(n api.Node) api.Node { return node(api.NodeFor, "", none, numberNode(1), none, block(n)) }
	for name, k := range map[string]struct {
		node api.Node
		want int32
	}{
		"blocks":  {nested(250000, put, block), 5},
		"choices": {nested(1500, put, choice), 5},
		"others":  {nested(2000, put, other), 5},
		"whiles":  {nested(1500, put, while), 5},
		"dos":     {nested(2000, put, do), 5},
	} {
		c := treeOf(t, k.node)
		p := made(t, name, c)
		if _, b := held(t, name, c, p, "", 10_000_000, 100); b != exit(k.want, "") {
			t.Errorf("%s: %+v", name, b)
		}
	}
	refusedAsFull(t, "too many choices", treeOf(t, nested(80000, put, choice)))
	refusedAsFull(t, "too many whiles", treeOf(t, nested(40000, put, while)))
	refusedAsFull(t, "too many dos", treeOf(t, nested(80000, put, do)))
	refusedAsFull(t, "too many loops without end", treeOf(t, nested(40000, put, count)))
}

// Lo1: what control does not come to is no part of the function, however much it is.
func TestNotReached(t *testing.T) {
	put := statementOf(nested(1000, nameNode("y"), func(n api.Node) api.Node { return node(api.NodeUnary, "-", n) }))
	statements := []api.Node{node(api.NodeReturn, "", numberNode(8))}
	for range 200 {
		statements = append(statements, put)
	}
	c := treeOf(t, statements...)
	if _, b := held(t, "behind a return", c, made(t, "behind a return", c), "", 1000, 9); b != exit(8, "") {
		t.Errorf("%+v", b)
	}
}

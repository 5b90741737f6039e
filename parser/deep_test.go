package parser

import (
	"runtime/debug"
	"strings"
	"testing"

	"crucible/api"
	"crucible/ast"
)

// shape is a source that nests something as often as one wants.
type shape struct {
	head, open, middle, shut, tail string
	depth                          int // of the tree without nesting
	step                           int // how much deeper the tree is each time
}

func (s shape) src(n int) string {
	return s.head + strings.Repeat(s.open, n) + s.middle + strings.Repeat(s.shut, n) + s.tail
}

// longest is how often the source can nest, with room for some bytes more.
func (s shape) longest() int {
	return (api.MaxSource - 4 - len(s.head+s.middle+s.tail)) / len(s.open+s.shut)
}

// expressions nest one node deeper each time.
func expressions() []shape {
	var list []shape
	for _, k := range [][3]string{
		{"-", "a", ""}, {"~", "a", ""}, {"& ", "a", ""}, {"(int)", "a", ""}, {"sizeof ", "a", ""}, {"-(", "a", ")"},
		{"", "a", "[1]"}, {"a[", "a", "]"}, {"", "a", ".b"}, {"", "a", "->b"}, {"(", "a", ").b"}, {"f(", "a", ")"}, {"putbyte(1,", "a", ")"},
		{"", "a", "+a"}, {"a*(", "a", ")"}, {"", "a", "&&a"}, {"a||(", "a", ")"}, {"(", "a", ")-b"},
		{"a?b:", "c", ""}, {"a?", "b", ":c"}, {"(", "a", ")?b:c"}, {"a=", "b", ""}, {"((a))+=(", "b", ")"},
	} {
		list = append(list, shape{open: k[0], middle: k[1], shut: k[2], depth: 1, step: 1})
	}
	return list
}

// within is an expression's shape within a program.
func (s shape) within(head, tail string, depth int) shape {
	return shape{head, s.open, s.middle, s.shut, tail, s.depth + depth, s.step}
}

// statements nest in a program.
func statements() []shape {
	const head, tail = "int f(){", "}"
	return []shape{
		{head, "{", "", "}", tail, 3, 1},
		{head, "if(a)", ";", "", tail, 4, 1},
		{head, "if(a);else ", ";", "", tail, 4, 1},
		{head, "if(a)", ";", "else;", tail, 4, 1},
		{head, "while(a)", ";", "", tail, 4, 1},
		{head, "do ", ";", "while(a);", tail, 4, 1},
		{head, "for(;;)", ";", "", tail, 4, 1},
		{head, "{;", ";", ";}", tail, 4, 1},
		{head, "{if(a)", ";", "else;}", tail, 4, 2},
	}
}

// TestGreatestDepth has trees of just the greatest depth, and of one more.
func TestGreatestDepth(t *testing.T) {
	for _, s := range expressions() {
		checkDepth(t, Expression, s)
		checkDepth(t, Parse, s.within("int x=", ";", 3))
		checkDepth(t, Parse, s.within("int f(){int y;;return ", ";}", 4))
	}
	for _, s := range statements() {
		checkDepth(t, Parse, s)
	}
}

func checkDepth(t *testing.T, read func(string) (api.Node, int, api.Errno), s shape) {
	t.Helper()
	most := (api.MaxDeep - s.depth) / s.step
	for _, n := range []int{0, 1, 2, most} {
		tree, p, e := read(s.src(n))
		if d := ast.Depth(tree); e != api.OK || p != 0 || d != s.depth+n*s.step {
			t.Errorf("%s: %d at %d, %d deep, not %d", s.src(n), e, p, d, s.depth+n*s.step)
		}
	}
	more := s.src(most + 1)
	refuses(t, read, more, api.ErrDeep, 0)
	refuses(t, read, more+" )", api.ErrSyntax, len(more)+1)
	refuses(t, read, more+" 09", api.ErrLex, len(more)+1)
}

// TestDeeperThanAnyStack nests as often as a source has room for, with a stack that would not hold it.
func TestDeeperThanAnyStack(t *testing.T) {
	defer debug.SetMaxStack(debug.SetMaxStack(1 << 18))
	for i, s := range expressions() {
		if i%2 == 0 { // these in a program, the others alone
			s = s.within("int x=", ";", 3)
		}
		read := Expression
		if s.head != "" {
			read = Parse
		}
		checkDeepest(t, read, s)
	}
	for _, s := range statements() {
		checkDeepest(t, Parse, s)
	}
	parens := shape{open: "(", middle: "a", shut: ")"}
	n, p, e := Expression(parens.src(parens.longest()))
	if e != api.OK || p != 0 || shown(n) != "name'a@32765" {
		t.Errorf("parentheses: %d at %d", e, p)
	}
	sum := shape{open: "((", middle: "b", shut: "))"}
	n, p, e = Expression("(" + sum.src(10000) + "+" + sum.src(5000) + ")=c")
	if e != api.ErrSyntax || p != 60005 || n.Kind != 0 {
		t.Errorf("parentheses around a sum: %d at %d", e, p)
	}
	n, p, e = Expression("(" + sum.src(10000) + ")=c")
	if e != api.OK || p != 0 || shown(n) != "assign'=@0(name'b@20001 name'c@40004)" {
		t.Errorf("parentheses around a place: %d at %d, %s", e, p, shown(n))
	}
}

func checkDeepest(t *testing.T, read func(string) (api.Node, int, api.Errno), s shape) {
	t.Helper()
	n := s.longest()
	refuses(t, read, s.src(n), api.ErrDeep, 0)
	refuses(t, read, s.src(n)+"]", api.ErrSyntax, len(s.src(n)))
	if half := s.head + strings.Repeat(s.open, n); s.open != "" {
		refuses(t, read, half, api.ErrSyntax, len(half))
		refuses(t, read, half+"else", api.ErrSyntax, len(half))
	}
}

// TestLongest has sources as long as may be, and of a byte more.
func TestLongest(t *testing.T) {
	for _, k := range []struct{ head, fill, tail string }{
		{"int x;", " ", ""}, {"", "\n", "int x;"}, {"int ", "x", ";"}, {"int x;//", "y", ""}, {"", "int x;", ""}, {"", "struct s{};", ""}, {"int f(){", ";", "}"}, {"int f(){", "a;", "}"}, {"int x[]={1", ",1", "};"}, {"int x", ",x", ";"}, {"int f(int a", ",int a", "){}"}, {"int f(){a(a", ",a", ");}"}, {"", " ", ""},
	} {
		n := (api.MaxSource - len(k.head+k.tail)) / len(k.fill)
		src := k.head + strings.Repeat(k.fill, n) + k.tail
		src += strings.Repeat(" ", api.MaxSource-len(src))
		if tree, p, e := Parse(src); e != api.OK || p != 0 || tree.Kind != api.NodeProgram || ast.Check(tree) != api.OK {
			t.Errorf("%q, as long as may be: %d at %d", k, e, p)
		}
		refuses(t, Parse, src+" ", api.ErrLong, 0)
		refuses(t, Parse, " "+src, api.ErrLong, 0)
		refuses(t, Parse, src+"09", api.ErrLong, 0)
	}
	long := strings.Repeat(" ", api.MaxSource-1)
	if n, p, e := Expression(long + "a"); e != api.OK || p != 0 || shown(n) != "name'a@65535" {
		t.Errorf("Expression, as long as may be: %d at %d", e, p)
	}
	refuses(t, Expression, long+"aa", api.ErrLong, 0)
	refuses(t, Expression, long+"=", api.ErrSyntax, api.MaxSource-1)
	refuses(t, Expression, long+" ", api.ErrSyntax, api.MaxSource)
	refuses(t, Parse, long+"=", api.ErrSyntax, api.MaxSource-1)
	refuses(t, Parse, strings.Repeat("(", 1<<20), api.ErrLong, 0)
}

// TestTextOfEachKind: the text of a tree of each kind of node is read as that tree.
func TestTextOfEachKind(t *testing.T) {
	seen := map[int]int{}
	for _, src := range rows() {
		n, _, _ := Parse(src)
		text, e := ast.Print(n)
		again, p, e2 := Parse(text)
		if e != api.OK || e2 != api.OK || p != 0 || !ast.Same(n, again) {
			t.Errorf("%s: %d; %q: %d at %d", src, e, text, e2, p)
		}
		count(seen, &n)
	}
	for kind, name := range kinds() {
		if seen[kind] == 0 {
			t.Errorf("no source has a node of kind %s", name)
		}
	}
}

func count(seen map[int]int, n *api.Node) {
	seen[n.Kind]++
	for i := range n.Kids {
		count(seen, &n.Kids[i])
	}
}

// TestAnyBytes: whatever a source is, the call ends with one of the errors that the chapter names.
func TestAnyBytes(t *testing.T) {
	for _, src := range []string{"\x00", "\xff\xfe", "int \x80;", "é", "'", "\"", "/*", "\\", "#", "int f(){\"\n\";}", "0x", "1a"} {
		if _, _, e := Parse(src); e != api.ErrLex {
			t.Errorf("%q: %d", src, e)
		}
		if _, _, e := Expression(src); e != api.ErrLex {
			t.Errorf("%q: %d", src, e)
		}
	}
}

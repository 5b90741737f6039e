package source

import (
	"strconv"
	"strings"
	"testing"

	"crucible/api"
	"crucible/check"
)

// TestDeepCalls has as many calls under way as may be, each within an expression as deep as a source's may be.
func TestDeepCalls(t *testing.T) {
	const nest = 180
	src := "uint f(uint n) { if (n == 0) return 0; return " + strings.Repeat("1u > (", nest) + "f(n - 1)" + strings.Repeat(")", nest) + "; } int main() { return f(4094); }"
	p := checked(t, src)
	e, n, err := Run(p, "", 100_000_000, api.MaxCalls)
	if e != exit(0) || n != api.MaxCalls || err != api.OK {
		t.Errorf("%+v, %d, %d", e, n, err)
	}
	if e, n, _ = Run(p, "", 100_000_000, api.MaxCalls-1); (e != api.End{Kind: api.EndFuel}) || n != api.MaxCalls-1 {
		t.Errorf("%+v, %d", e, n)
	}
}

// TestGreatFrames has them under way with as many bytes of variables each as may be.
func TestGreatFrames(t *testing.T) {
	var b strings.Builder
	b.WriteString("int f(int n) { int r;")
	for i := range 15 {
		b.WriteString(" int a" + strconv.Itoa(i) + "[1024];")
	}
	b.WriteString(" int z[1022]; a0[0] = n; z[1021] = n; if (n) r = f(n - 1); if (a0[0] != n || z[1021] != n) return -1; return r + 1; } int main() { return f(4094); }")
	p := checked(t, b.String())
	if e, n, err := Run(p, "", 100_000_000, api.MaxCalls); e != exit(4095) || n != api.MaxCalls || err != api.OK {
		t.Errorf("%+v, %d, %d", e, n, err)
	}
}

// TestFramesAreNew asks that variables of a call are 0, whatever calls ahead of it left there, greater or smaller ones.
func TestFramesAreNew(t *testing.T) {
	src := `struct s { int i; char c[3]; };
int great(int n) { int a[100]; int i; for (i = 0; i < 100; i += 1) { if (a[i]) return -1; a[i] = 77; } return n ? small(n - 1) : 0; }
int small(int n) { char c; int i; struct s v; if (c || i || v.i || v.c[2]) return -2; c = 1; i = 2; v.i = 3; v.c[2] = 4; return n ? great(n - 1) : 0; }
int main() { int i; for (i = 0; i < 9; i += 1) { if (great(i) || small(i)) return 1; } return 0; }`
	ask(t, src, "", exit(0))
}

// TestVariablesBegin asks the same of variables whose TermDecl was taken away: a call's bytes are all 0 in the beginning.
func TestVariablesBegin(t *testing.T) {
	p := checked(t, "int f() { int x; x += 1; return x; } int main() { f(); return f() * 10 + f(); }")
	kids := p.Routines[0].Body.Kids
	if kids[0].Kind != api.TermDecl {
		t.Fatal("no TermDecl")
	}
	p.Routines[0].Body.Kids = kids[1:]
	if e, _, err := Run(p, "", 1000, 9); e != exit(11) || err != api.OK {
		t.Errorf("%+v, %d", e, err)
	}
}

// TestDeepTrees runs what layer 12 tells of trees deeper than a source's.
func TestDeepTrees(t *testing.T) {
	for _, n := range []int{1000, 100_001} {
		x := api.Node{Kind: api.NodeNumber, Num: 5}
		for range n {
			x = api.Node{Kind: api.NodeUnary, Str: "~", Kids: []api.Node{x}}
		}
		s := api.Node{Kind: api.NodeReturn, Kids: []api.Node{x}}
		for range n / 2 {
			s = api.Node{Kind: api.NodeBlock, Kids: []api.Node{s}}
		}
		kids := []api.Node{{Kind: api.NodeType, Str: "int"}, {Kind: api.NodeBlock, Kids: []api.Node{s}}}
		p, d, ok := check.Check(api.Node{Kind: api.NodeProgram, Kids: []api.Node{{Kind: api.NodeFunc, Str: "main", Kids: kids}}})
		if !ok {
			t.Fatalf("%d: refused: %+v", n, d)
		}
		want := exit(5)
		if n%2 == 1 {
			want = exit(^5)
		}
		if e, _, err := Run(p, "", 1_000_000, 1); e != want || err != api.OK {
			t.Errorf("%d: %+v, %d", n, e, err)
		}
	}
}

// TestDeepestTree runs the deepest terms that a tree of 2^18 nodes becomes: three a node.
func TestDeepestTree(t *testing.T) {
	x := api.Node{Kind: api.NodeNumber, Num: 5}
	one := api.Node{Kind: api.NodeNumber, Num: 1, Flag: true}
	const n = 1<<17 - 4 // each has two nodes
	for range n {
		x = api.Node{Kind: api.NodeBinary, Str: ">", Kids: []api.Node{x, one}}
	}
	s := api.Node{Kind: api.NodeReturn, Kids: []api.Node{x}}
	kids := []api.Node{{Kind: api.NodeType, Str: "int"}, {Kind: api.NodeBlock, Kids: []api.Node{s}}}
	p, d, ok := check.Check(api.Node{Kind: api.NodeProgram, Kids: []api.Node{{Kind: api.NodeFunc, Str: "main", Kids: kids}}})
	if !ok {
		t.Fatalf("refused: %+v", d)
	}
	if e, _, err := Run(p, "", 10_000_000, 1); e != exit(0) || err != api.OK {
		t.Errorf("%+v, %d", e, err)
	}
}

// TestLongTape gets and puts a whole input of the greatest length.
func TestLongTape(t *testing.T) {
	input := strings.Repeat("abcdefgh", api.MaxTape/8)
	p := checked(t, "int main() { int c, n; while ((c = getbyte()) != -1) { putbyte(c); n += 1; } return n; }")
	e, _, err := Run(p, input, 100_000_000, 1)
	if (e != api.End{Kind: api.EndExit, Code: api.MaxTape, Out: input, Used: api.MaxTape}) || err != api.OK {
		t.Errorf("kind %d, code %d, %d bytes, used %d, %d", e.Kind, e.Code, len(e.Out), e.Used, err)
	}
}

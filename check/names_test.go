package check

import (
	"reflect"
	"testing"

	"crucible/api"
)

// Ck1: names outside of functions: structs have theirs, functions and globals share theirs.
func TestNamesOutside(t *testing.T) {
	wantWrong(t,
		"int a; int @a;"+lastMain, "int a, @a;"+lastMain, "int a; char @a[2];"+lastMain, "int f; @int f() { return 1; }"+lastMain, "int f() { return 1; } int @f;"+lastMain, "int f() { return 1; } @void f(int a) { }"+lastMain, "int main() { return 1; } @int main() { return 1; }", "int main() { return 1; } int @main;", "int main; @int main() { return 1; }",
		"struct a { int a; }; @struct a { int b; };"+lastMain, "struct a { int a; }; @struct a { int a; };"+lastMain,
		"int f(int a, @int a) { return 1; }"+lastMain, "int f(int a, char b, @char a[]) { return 1; }"+lastMain, "struct s { int a; }; int f(int a, @struct s *a) { return 1; }"+lastMain,
		"@struct s { int a, a; };"+lastMain, "@struct s { int a; char b; char a[2]; };"+lastMain,
	)
	wantAllRight(t, "struct a { int a; }; int a;"+lastMain, "struct f { int f; }; int f() { struct f f; f.f = 1; return f.f; }"+lastMain, "struct s { int a; }; struct s s; int f(struct s *s) { return s->a; }"+lastMain, "struct main { int main; }; int main() { int main = 1; return main; }", "int x; int f(int x) { return x; } int g(int f, int g, int x) { return f + g + x; }"+lastMain)
}

// Ck1: a struct and a global are known behind where they stand, a function in all bodies.
func TestKnownWhere(t *testing.T) {
	wantWrong(t,
		"@struct s v; struct s { int a; };"+lastMain, "int f(@struct s *p) { return 1; } struct s { int a; };"+lastMain, "@struct s f() { } struct s { int a; };"+lastMain, "int f() { @struct s v; return 1; } struct s { int a; };"+lastMain, "int f() { return sizeof(@struct s); } struct s { int a; };"+lastMain, "struct s { @struct s a; };"+lastMain, "struct s { int a[sizeof(@struct s)]; };"+lastMain,
		"int f() { return @g; } int g;"+lastMain, "int f() { @g = 1; return 1; } int g;"+lastMain, "int x = sizeof @g; int g;"+lastMain, "int g = sizeof @g;"+lastMain, "int a = sizeof @b, b;"+lastMain, "int f() { int a[sizeof @g]; return 1; } int g;"+lastMain, "int f() { return @g; } int h; int g; int k() { return g + h; }"+lastMain, "int f(int a[]) { return f(@g); } int g[2];"+lastMain, "struct s { int a; }; int f(struct s *a) { return f(@&g); } struct s g;"+lastMain,
		"int f() { return g(@x); } int g(int a) { return a; } int x;"+lastMain,
	)
	c := wantRight(t, "int f() { return g() + h(1); } int x; int g() { return f() + x + g(); } int h(char c) { return c ? h(c) : x; } int y = sizeof x, z[sizeof y]; int main() { return main() + y + z[0]; }")
	if len(c.Routines) != 4 || c.Main != 3 {
		t.Fatalf("routines: %+v", c)
	}
	for i, want := range []string{
		"(block (return (alu:int add (call:int f1) (call:int f2 (conv:char (const:int 1))))))",
		"(block (return (alu:int add (alu:int add (call:int f0) (place:int g0 of=int)) (call:int f1))))",
		"(block (return (cond:int (place:char v0 of=char) (call:int f2 (place:char v0 of=char)) (place:int g0 of=int))))",
		"(block (return (alu:int add (alu:int add (call:int f3) (place:int g1 of=int)) (place:int g2 len=4 of=int (const:int 0)))))",
	} {
		if got := spell(c.Routines[i].Body); got != want {
			t.Errorf("routine %d: %s, not %s", i, got, want)
		}
	}
}

// Ck1: names in blocks.
func TestNamesInBlocks(t *testing.T) {
	wantWrong(t,
		"int f(int a) { int @a; return 1; }"+lastMain, "int f(int a) { a = 1; { int a; } char @a[2]; return 1; }"+lastMain, "int f() { int a; int b, @a; return 1; }"+lastMain, "int f() { { int a; } return @a; }"+lastMain, "int f() { { int a; { int b; } @b; } return 1; }"+lastMain, "int f() { { int a; int @a; } return 1; }"+lastMain, "int f() { while (1) { int a; } return @a; }"+lastMain,
		"int f() { @a = 1; int a; return 1; }"+lastMain, "int f(int a) { return a; } int g() { return @a; }"+lastMain, "int f() { int a; return a; } int g() { return @a; }"+lastMain, "int f() { int x = @x; return 1; }"+lastMain, "int f() { { int a; } { @a; } return 1; }"+lastMain, "int f() { { } { int b; { } { @a; } } return 1; }"+lastMain,
		"int a; int f() { { char a[2]; } return a + @b; }"+lastMain, "int f() { int g[2]; return @g; } int g;"+lastMain, "int g; int f() { int g[2]; return @g; }"+lastMain, "int f(char a[]) { { int a; f(@a); } return 1; }"+lastMain,
	)
	c := wantRight(t, "int a; int f(int b) { { int b = b; b; { char b = b; b; } b; } b; { uint a = a; a; } a; int a = a; a; { int c; } { int c; c; } return 1; }"+lastMain)
	want := "(block (block (decl v1 (place:int v0 of=int)) (eval (place:int v1 of=int)) (block (decl v2 (conv:char (place:int v1 of=int))) (eval (place:char v2 of=char))) (eval (place:int v1 of=int))) (eval (place:int v0 of=int)) " +
		"(block (decl v3 (conv:uint (place:int g0 of=int))) (eval (place:uint v3 of=uint))) (eval (place:int g0 of=int)) (decl v4 (place:int g0 of=int)) (eval (place:int v4 of=int)) (block (decl v5)) (block (decl v6) (eval (place:int v6 of=int))) (return (const:int 1)))"
	if got := spell(c.Routines[0].Body); got != want {
		t.Errorf("blocks: %s, not %s", got, want)
	}
	vars := []api.Var{}
	for _, v := range []struct {
		name string
		kind int
	}{{"b", api.TypeInt}, {"b", api.TypeInt}, {"b", api.TypeChar}, {"a", api.TypeUint}, {"a", api.TypeInt}, {"c", api.TypeInt}, {"c", api.TypeInt}} {
		vars = append(vars, api.Var{Name: v.name, Type: api.Type{Kind: v.kind}})
	}
	if !reflect.DeepEqual(c.Routines[0].Vars, vars) {
		t.Errorf("variables: %+v", c.Routines[0].Vars)
	}
}

// Ck1, Sc3: a variable hides the function of its name, until its block ends.
func TestHiddenFunctions(t *testing.T) {
	ahead := "struct s { int f; }; int f() { return 1; } void v(int a) { } "
	wantWrong(t,
		ahead+"int main() { int f; return @f(); }", ahead+"int main() { int f; return 2 + @f() * 3; }", ahead+"int main() { int f; return @f(1, y); }", ahead+"int main() { int f = 1; @f(); return f; }", ahead+"int main() { char f[2]; return @f(); }", ahead+"int main() { struct s f; return @f(); }", ahead+"int main() { int v; @v(1); return 1; }", ahead+"int main() { int v; @v(y); return 1; }", ahead+"int main() { int f; return sizeof @f(); }", ahead+"int main() { int f; v(@f()); return 1; }", ahead+"int main() { int f, a[2]; return a[@f()]; }",
		ahead+"int main() { int f = 1, b = @f(); return b; }", ahead+"int main() { int f[2] = {1, 2}; int b[] = {f[0], @f()}; return 1; }", ahead+"int main() { int main; return @main(); }", ahead+"int main() { { int f; { { return @f(); } } } return 1; }", ahead+"int main() { int f; { int g; return @f(); } }", ahead+"int main() { int f; { char f; } return @f(); }", ahead+"int main() { int f; while (@f()) ; return 1; }", ahead+"int main() { while (1) { int f; for (; ; @f()) ; } }",
		"int f(int f) { return @f(f); }"+lastMain, "int f(int f[]) { return @f(f); }"+lastMain, "struct s { int a; }; int f(struct s *f) { return @f(f); }"+lastMain, "int f(int a, int g) { return @g(a); } int g(int a) { return a; }"+lastMain, "int f(int g) { { return @g(); } } int g() { return 1; }"+lastMain, "int f() { int g; return @g(); } int g() { return f(); }"+lastMain,
		"int g; int f() { return @g(); }"+lastMain, "int f() { return @g(); } int g;"+lastMain, "int f() { int g; return @g(); }"+lastMain,
	)
	c := wantRight(t, "int f() { return 1; } int g(int g) { int h = h() + g, f = f(); { int m = f; } return f; } int h() { { int f; { char f[2]; } f = 2; } return f() + g(f()); } int main() { int main = main(); return main; }")
	if len(c.Routines) != 4 {
		t.Fatalf("routines: %+v", c)
	}
	for i, want := range []string{
		"(block (return (const:int 1)))",
		"(block (decl v1 (alu:int add (call:int f2) (place:int v0 of=int))) (decl v2 (call:int f0)) (block (decl v3 (place:int v2 of=int))) (return (place:int v2 of=int)))",
		"(block (block (decl v0) (block (decl v1)) (eval (assign:int (place:int v0 of=int) (const:int 2)))) (return (alu:int add (call:int f0) (call:int f1 (call:int f0)))))",
		"(block (decl v0 (call:int f3)) (return (place:int v0 of=int)))",
	} {
		if got := spell(c.Routines[i].Body); got != want {
			t.Errorf("routine %d: %s, not %s", i, got, want)
		}
	}
	wantAllRight(t, "struct f { int f; }; int f() { struct f g; g.f = f(); return g.f; }"+lastMain, "int f(int g) { return g + f(g); } int g() { return f(g()); }"+lastMain)
}

// Ck1: main.
func TestMain(t *testing.T) {
	wantWrong(t, "@", "@int f() { return 1; }", "@int main;", "@void main() { }", "@uint main() { return 1; }", "@char main() { return 1; }", "@int main(int a) { return 1; }", "@struct main { int a; };", "@int Main() { return 1; }", "@int main(int a[]) { return y; }", "@ int f() { return y; }")
	for i, src := range []string{"int main() { return 0; } int f() { return 0; }", "int f() { return 0; } int main() { return 0; }", "void f() { } void g() { } int main() { return main(); }"} {
		if c := wantRight(t, src); c.Main != i {
			t.Errorf("%s: main is %d", src, c.Main)
		}
	}
}

// Ck1: structs, and heads of functions.
func TestNoStructNoHead(t *testing.T) {
	ahead := "struct o { int a; }; "
	wantWrong(t,
		"@struct s { };"+lastMain, "struct s { void @a; };"+lastMain, "struct s { int a; void @b[2]; };"+lastMain, ahead+"struct s { struct o @a; };"+lastMain, ahead+"struct s { struct o @a[2]; };"+lastMain, ahead+"struct s { int a; struct o @b, c; };"+lastMain, "struct s { @struct t a; };"+lastMain, "struct s { int @a[]; };"+lastMain, "struct s { int a[@0]; };"+lastMain, "struct s { int a[@y]; };"+lastMain, "struct s { int a; int b[@a]; };"+lastMain, "struct s { int a, b[@1 / 0]; };"+lastMain, "int v; struct s { int a[@v]; };"+lastMain,
		ahead+"@struct o f() { }"+lastMain, "@struct n f() { }"+lastMain, "int f(@struct n *p) { return 1; }"+lastMain, "int f(@struct n p[]) { return 1; }"+lastMain, ahead+"int f(@struct o p) { return 1; }"+lastMain, ahead+"int f(@struct o p[]) { return 1; }"+lastMain, "int f(@void p) { return 1; }"+lastMain, "int f(@void p[]) { return 1; }"+lastMain, "int f(@void *p) { return 1; }"+lastMain, "int f(@int *p) { return 1; }"+lastMain, "int f(int a, @char *p) { return 1; }"+lastMain,
	)
	c := wantRight(t, "int n[3]; struct s { char a, b[sizeof n]; uint c; }; struct t { char x; }; char f(int a, uint b, char c, int d[], char e[], struct t *g) { return 1; } void h(uint a[], struct s *p) { struct s q; int r[2]; }"+lastMain)
	records := []api.Record{
		{Name: "s", Members: []api.Member{{Name: "a", Type: api.Type{Kind: api.TypeChar}}, {Name: "b", Type: api.Type{Kind: api.TypeArray, Elem: api.TypeChar, Len: 12}, At: 1}, {Name: "c", Type: api.Type{Kind: api.TypeUint}, At: 16}}, Size: 20},
		{Name: "t", Members: []api.Member{{Name: "x", Type: api.Type{Kind: api.TypeChar}}}, Size: 1},
	}
	if !reflect.DeepEqual(c.Records, records) {
		t.Errorf("records: %+v", c.Records)
	}
	first := api.Routine{Name: "f", Result: api.TypeChar, Params: 6, Vars: []api.Var{
		{Name: "a", Type: api.Type{Kind: api.TypeInt}}, {Name: "b", Type: api.Type{Kind: api.TypeUint}}, {Name: "c", Type: api.Type{Kind: api.TypeChar}},
		{Name: "d", Type: api.Type{Kind: api.TypeRefArray, Elem: api.TypeInt}}, {Name: "e", Type: api.Type{Kind: api.TypeRefArray, Elem: api.TypeChar}}, {Name: "g", Type: api.Type{Kind: api.TypeRefStruct, Struct: 1}},
	}}
	first.Body = c.Routines[0].Body
	second := api.Routine{Name: "h", Params: 2, Vars: []api.Var{
		{Name: "a", Type: api.Type{Kind: api.TypeRefArray, Elem: api.TypeUint}}, {Name: "p", Type: api.Type{Kind: api.TypeRefStruct}}, {Name: "q", Type: api.Type{Kind: api.TypeStruct}}, {Name: "r", Type: api.Type{Kind: api.TypeArray, Elem: api.TypeInt, Len: 2}},
	}, Body: c.Routines[1].Body}
	if !reflect.DeepEqual(c.Routines[:2], []api.Routine{first, second}) {
		t.Errorf("routines: %+v", c.Routines)
	}
}

// Ck1: two wrong things in one source, and which is told.
func TestOrder(t *testing.T) {
	wantWrong(t,
		// Outside of bodies ahead of bodies, main between; bodies in their order.
		"int f() { return y; } int a; int @a;"+lastMain, "int f() { return y; } @struct s { };", "@int f() { return y; }", "int f() { return @y; } int main() { return z; }", "int main() { return @y; } int f() { return z; }", "int main() { @break; } int f() { return z; }", "int f() { return y; } @int f() { return z; }"+lastMain, "int f() { return y; } int x = @z;"+lastMain,
		// Items in theirs.
		"int a; int @a; struct s { };"+lastMain, "@struct s { }; int a; int a;"+lastMain, "int a = @y; int a = z;"+lastMain, "int a, @a, b = y;"+lastMain, "void @a, b;"+lastMain, "@struct n a, b;"+lastMain,
		// Kids ahead of the node itself.
		"int f() { return -(1 + @y); } int main() { }", "int main() { if (@y) break; }", "int main() { while (1) { @y; } break; }", "int main() { putbyte(@y) + 1; }", "int main() { sizeof putbyte(@y); }", "void f() { return @y; }"+lastMain,
		// A NodeVar: type, length, initial value, name.
		"int a; void @a[y] = {z};"+lastMain, "int a; int a[@y] = {z};"+lastMain, "int a; int a[2] = {@z};"+lastMain, "int a; int @a[2] = {1};"+lastMain, "int main() { int a; int a[@0] = {y}; }", "int main() { int a; int a = @y; }", "int a; int @a[] = y;"+lastMain, "int main(){ int @a[] = 1 + y; }",
		// A NodeStruct: its NodeVars, its name, its members.
		"struct s { int a; }; struct s { void @a; };"+lastMain, "struct s { int a; }; struct s { int a, a; void @b; };"+lastMain, "struct s { int a, a; int b[@y]; };"+lastMain,
		// A NodeFunc: result, parameters (type, shape, name), name.
		"int f; @struct n f(struct m *p) { }"+lastMain, "int f; int f(@struct m p) { return 1; }"+lastMain, "int f; int f(int a, @int *a) { return 1; }"+lastMain, "int f; int f(int a, @int a) { return 1; }"+lastMain, "int f; @int f(int a) { return y; }"+lastMain, "int f(int a, @int a, void b) { return y; }"+lastMain, "int f(int a, @void a, int a) { return y; }"+lastMain, "@struct n f(void a) { }"+lastMain,
		// The end of a body behind all that is in it.
		"int f() { @y; } int main() { return 0; }", "@int f() { } int main() { return y; }",
		// A NodeCall, a NodeAssign.
		"int main() { return @g(y); }", "int g() { return 1; } int main() { return @g(y); }", "int g(int a, int b) { return 1; } int main() { return g(@y, z); }", "int main() { @x = y; }", "int main() { int a[2]; a[@x] = y; }", "int main() { int a[2]; a[1] = @y; }", "int main() { int a[2]; @a = y; }",
	)
}

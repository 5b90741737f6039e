package check

import (
	"testing"

	"crucible/api"
)

// inBody is a function's body within the setting of the terms' tests.
func inBody(statements string) string {
	return setting + "int f4(int vi, uint vu, char vc, int ra[], char rc[], struct s *rs) { struct s vs; char va[9]; " + statements + " return 0; }" + lastMain
}

func wantWrongInBody(t *testing.T, statements ...string) {
	t.Helper()
	for _, s := range statements {
		wantWrong(t, inBody(s))
	}
}

func TestExamples(t *testing.T) {
	c := wantRight(t, "char c = 300;"+lastMain)
	if len(c.Data) != 1 || c.Data[0] != (api.Fill{At: 0, Bytes: "\x2c"}) {
		t.Errorf("char c = 300: %+v", c.Data)
	}
	wantWrong(t, "@int main() { }", "int main() { return @x; }", "int a[@0];"+lastMain)
}

// Ck1: what is no value.
func TestNoValue(t *testing.T) {
	wantWrongInBody(t,
		"@y;", "@f0;", "@main;", "@s;", "@ia;", "@ra;", "@t;", "@vs;", "@rs;", "@va;", "@t.c;", "@rs->c;", `@"a";`, `@"";`, "@&vi;", "@&y;", "@&t;", "@&vs;", `@&"a";`, "@&(1 + y);",
		"1 + @y;", "@y + 1;", "@y + z;", "-@y;", "-@ia;", "!@t;", "~@f0;", `-@"a";`, "1 && @y;", "@y || 1;", "1 ? @y : 2;", "1 ? 2 : @y;", "@y ? z : z;", "(int)@y;", "(char)@ia;", "sizeof @y;", "vi = @y;", "vi = @ia;", `vc = @"a";`, "vi += @&vi;",
		"-@putbyte(1);", "1 + @putbyte(1);", "@putbyte(1) + 1;", "@putbyte(1) + y;", "putbyte(@y) + 1;", "@f1(1, ia, &t) && 1;", "1 || @putbyte(1);", "@putbyte(1) ? 1 : 2;", "1 ? @putbyte(1) : 2;", "1 ? 2 : @putbyte(1);", "(int)@putbyte(1);", "vi = @putbyte(1);", "vi <<= @putbyte(1);", "ia[@putbyte(1)];", "putbyte(@putbyte(1));", "f0(@putbyte(1));",
		"if (@putbyte(1)) ;", "while (@putbyte(1)) ;", "do ; while (@putbyte(1));", "for (; @putbyte(1); ) ;", "return @putbyte(1);", "int x = @putbyte(1);", "int x[2] = {1, @putbyte(1)};", "int x[@putbyte(1)];",
		"if (@y) ;", "if (1) @y;", "if (1) ; else @y;", "while (@y) ;", "while (1) @y;", "do @y; while (z);", "do ; while (@y);", "for (@y; z; z) z;", "for (; @y; z) z;", "for (; ; @y) z;", "for (; ; ) @y;", "return @y;", "{ @y; }", "{ { } @y; }",
	)
}

// Ck1: what is no place, and how far it is gone into.
func TestNoPlace(t *testing.T) {
	wantWrongInBody(t,
		"@vi.a;", "@vi->a;", "@vi[0];", "@t.x;", "@t->a;", "@t->b;", "@rs.a;", "@rs->x;", "@t[0];", "@rs[0];", "@t.a[0];", "@t.x[0];", "@rs->b[0];", "@ia.a;", "@ia->a;", "@ra.a;", "@ia[0][0];", "@ia[0].a;", "@t.a.a;", "@t.c.a;", "@t.c[0][0];", "@f0.a;", "@f0[0];",
		"@f0(1).a;", "@f0(1)[0];", "@1 .a;", `@"ab"[0];`, "@y.a;", "@y->a;", "@y[0];", "@vi[y];", "@t.x[y];", "ia[@y];", "ia[@ia];", "ia[@t.x];", "t.c[@y];", "rs->d[@rs];", "ra[1 + @y];", "ia[ia[@y]];",
		"@t.x = 1;", "@y = 1;", "@y = z;", "@ia = 1;", "@t = 1;", "@t = t;", "@rs = rs;", "@ra = 1;", "@f0 = 1;", "@t.c = 1;", "@vi.a = y;", "@vi[y] = z;", "ia[@y] = z;", "ia[1] = @z;", "vi = @z;", "@y += z;", "@t.x <<= z;", "vi = @y = 1;",
		"(@y).a;", "(@y)->a;", "(@y)[0];", "(@t.x)[0];", "@(vi).a;", "@(t).x;", "@(ia).a;", "@(t.a)[0];", "(1 + @y).a;", "@(1 + vi).a;", "(1 + @y)[z];", "@(1 + vi)[z];", "f0(@y).a;", "f0(@y)->a = z;", "ia[@y][z];", "@ia[1][z];", "(@&t).a;", "(@&t)->a;", `(@"ab").a;`, "(@y) = 1;",
	)
}

// Ck1: casts and sizes of what has none.
func TestNoCastNoSize(t *testing.T) {
	wantWrongInBody(t,
		"(@void)1;", "(@void)y;", "(@struct s)1;", "(@struct s)t;", "(@struct x)y;", "(@struct x)1;", "(@void)putbyte(1);",
		"@sizeof(void);", "sizeof(@struct x);", "@sizeof putbyte(1);", "@sizeof f1(1, ia, &t);", "sizeof f1(@y, ia, &t);", "sizeof @ra;", "sizeof @rs;", "sizeof @f0;", "sizeof @t.x;", "sizeof @rs->x;", `sizeof @"ab";`, "sizeof @&vi;", "sizeof @&y;", "sizeof(1 + @y);", "sizeof -@putbyte(1);",
	)
}

// Ck1: of a call first what is called, then how many arguments there are, then these.
func TestNoCall(t *testing.T) {
	wantWrongInBody(t,
		"@y();", "@y(z);", "@vi();", "@ia(1);", "@s();", "@getbyte(1);", "@getbyte(y);", "@putbyte();", "@putbyte(1, 2);", "@putbyte(y, z);", "putbyte(@y);", "@f0();", "@f0(1, 2);", "@f0(y, z);", "f0(@y);", "@f2(1);", "@f2(y);", "@f1(1, ia);", "@f1(y, z);", "@main(1);", "f0(@f0());",
		"f0(@ia);", "f0(@t);", "f0(@&vi);", `f0(@"a");`, "f0(@putbyte(1));",
		"f1(@y, z, z);", "f1(1, @y, z);", "f1(1, ia, @z);", "f1(1, @vi, z);", "f1(1, @ua, z);", "f1(1, @ca, z);", "f1(1, @rc, z);", "f1(1, @t, z);", `f1(1, @"ab", z);`, "f1(1, @1, z);", "f1(1, @ia[0], z);", "f1(1, @&ia, z);", "f1(1, @t.c, z);", "f1(1, @t.b, z);", "f1(1, @t.x, z);", "f1(1, 1 + @y, z);", "f1(1, ia[@y], z);", "f1(1, @1 + vi, z);", "f1(1, f0(@y), z);", "f1(1, @putbyte(1), z);", "f1(1, @f0, z);",
		"f1(1, ia, @t);", "f1(1, ia, @vs);", "f1(1, ia, @&vi);", "f1(1, ia, @&y);", "f1(1, ia, @&rs);", "f1(1, ia, @&t.b);", "f1(1, ia, @&ia);", "f1(1, ia, @&(1 + y));", "f1(1, ia, @1);", "f1(1, ia, @ia);", "f1(1, ia, 1 + @y);", "f1(1, ia, @-vi);", "f1(1, ia, @-rs->b);", "f1(1, ia, -@rs);", "f1(1, ia, -@vs);", "f1(1, ia, ~@t);", "f1(1, ia, !@t);", "f1(1, ia, @t & 1);", "f1(1, ia, @vs & t);", "f1(1, ia, @&-vs);", `f1(1, ia, @"a");`, "struct q w; f1(1, ia, @&w);", "f3(ua, ca, @&t);", "f3(ua, ca, @rs);", "f3(@ia, ca, rs);", "f3(ua, @ia, rs);", "f3(ua, @rs, y);",
	)
	// Outside of functions' bodies no function is known.
	wantWrong(t, "int f() { return 1; } int x = @f();"+lastMain, "int f() { return 1; } int x = sizeof @f();"+lastMain, "int f() { return 1; } int x[@f()];"+lastMain, "int f() { return 1; } struct s { int x[sizeof @f()]; };"+lastMain, "int x = @getbyte();"+lastMain, "int x = @1 + getbyte();"+lastMain, "int x[@putbyte(1)];"+lastMain, "int x = @putbyte(1);"+lastMain, "int x = @getbyte(y);"+lastMain, "int x = putbyte(@y);"+lastMain)
	wantAllRight(t, "int x = sizeof getbyte();"+lastMain, "struct s { int x[sizeof getbyte()]; };"+lastMain)
}

// Ck1: loops, and what a return tells.
func TestNoLoopNoReturn(t *testing.T) {
	wantWrongInBody(t, "@break;", "@continue;", "if (1) @break;", "{ @continue; }", "while (1) { } @break;", "do ; while (0); @continue;", "for (;;) break; @break;", "{ while (0) break; } @break;", "@return;", "if (1) @return;", "return @ia;", "return @t;")
	wantWrong(t, "void f() { @return 1; }"+lastMain, "void f() { return @y; }"+lastMain, "void f() { @return putbyte(1); }"+lastMain, "void f() { int a[2]; return @a; }"+lastMain, "char f() { return @f1(); } void f1() { }"+lastMain, "void g() { while (1) ; } void f() { @break; }"+lastMain, "int main() { @return; }", "void f() { while (1) { @return 1; } }"+lastMain)
	wantAllRight(t, "void f() { }"+lastMain, "void f() { return; }"+lastMain, "void f() { if (1) return; while (1) ; }"+lastMain, "uint f() { return 1; } char g() { return f(); }"+lastMain)
}

// Ck1: what a variable's type and its length may be.
func TestNoVariable(t *testing.T) {
	for _, where := range []struct{ ahead, behind string }{{"", lastMain}, {"int main() { ", " return 0; }"}, {"int main() { int l; { ", " } return 0; }"}} {
		for _, s := range []string{
			"void @x;", "int a; void @x = y;", "void @x[3];", "void @x[y];", "void @x[] = {y};", "@struct n x;", "@struct n x[y];", "int a, @a;", "int a; char @a;", "int a, @a[3];", "int a[2], @a = 1;",
			"int x[@0];", "int x[@-1];", "int x[@-2147483647 - 1];", "int x[@0u];", "int x[@y];", "int x[1 + @y];", `int x[@"a"];`, "int v; int x[@v];", "int v; int x[@1 + v];", "int v; int x[@1 || v];", "int v; int x[@1 ? 1 : v];", "int x[@1 / 0];", "int x[@1 % 0];", "int x[@1u / 0];", "int x[@getbyte()];", "int v; int x[@v = 1];", "int x[@(char)256];", "int x[@1 == 2];",
			"int @x[];", "char @x[];", "int @x[] = 1;", "int @x[] = y;", "int v; int @x[] = v;", "int v[2]; int @x[] = v;",
			"int x = @y;", "int x = 1 + @y;", `char x = @"a";`, "int v[2]; int x = @v;", "int x[2] = @1;", "int x[2] = @y;", "int x[2] = @3 + 4;", "int x[2] = 3 + @y;", `int x[2] = @"a";`, `uint x[] = @"a";`, "int x[2] = @{1, 2, 3};", "int x[2] = {@y, 2, 3};", "int x[2] = {1, 2, @y};", "int x[2] = {@y, z};", "int x[2] = {1, @z};", `int x[2] = {@"a"};`, `char x[2] = {@"a"};`, "int v[2]; int x[2] = @v;", "int x[2] = {@putbyte(1)};",
			`char x[1] = @"a";`, `char x[3] = @"abc";`, `char x[3] = @"abcd";`, "char x[1] = @{1, 2};", "int x = @x;", "int x = sizeof @x;", "int x[sizeof @x];", "int x[2] = {@x[0]};", "int x = @&x;",
			"int a; int a[@0];", "int a; int a = @y;", "int a; int @a = 2;", "void @main2[0];", "int x, z = @y;", "int x = @y, y = z;",
		} {
			wantWrong(t, where.ahead+s+where.behind)
		}
		structs := "struct s { int a; char b[2]; }; "
		for _, s := range []string{"struct s @x[2];", "struct s @x[y];", "struct s @x[];", "struct s x = @1;", "struct s x = @y;", "struct s x = 1 + @y;", "struct s v; struct s x = @v;", `struct s x = @"a";`, "struct s x = @&x;", "struct s x, @x;", "@struct t x;"} {
			wantWrong(t, structs+where.ahead+s+where.behind)
		}
		wantAllRight(t, where.ahead+"int a[1]; int b[sizeof a], c[3] = {1, 2, 3}, d[3] = {1}; char e[3] = \"ab\", f[3] = \"\", g[] = \"abc\", h[] = {1}; int i = 1, j[] = {1, 2}; uint k[2u]; char l[(char)257]; int m['a'], n[1 ? 2 : 1 / 0], o[0 || 3], p[7 >> 1], q[3u - 1];"+where.behind)
	}
	// A global's constants are told one by one, from the front.
	wantWrong(t, "int v; int x = @v;"+lastMain, "int v; int x[2] = {@v, y};"+lastMain, "int x[2] = {1, @1 / 0};"+lastMain, "int v; int x[1] = {1, @v};"+lastMain, "int x[1] = {@1 % 0, y};"+lastMain, "char x[2] = {@getbyte()};"+lastMain, "int v; int x = @0 && v;"+lastMain)
}

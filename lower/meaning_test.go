package lower

import (
	"testing"

	"crucible/api"
)

func exit(code int32, out string) api.End { return api.End{Kind: api.EndExit, Code: code, Out: out} }

func trapped(trap int, out string) api.End {
	return api.End{Kind: api.EndTrap, Trap: trap, Out: out}
}

// wanted asks what comes of a program, by the source and lowered.
func wanted(t *testing.T, src string, want api.End) {
	t.Helper()
	c := checked(t, src)
	want.Used = -1
	a, b := held(t, src, c, made(t, src, c), "xyz", 100_000, 100)
	a.Used, b.Used = -1, -1
	if a != want || b != want {
		t.Errorf("%s: %+v, and the source %+v; not %+v", src, b, a, want)
	}
}

// inMain is a program of some declarations, and of statements in main.
func inMain(outside, body string) string { return outside + " int main() { " + body + " }" }

// Lo2: each expression.
func TestExpressions(t *testing.T) {
	const f = "int f(int a, int b) { return a * 10 + b; }"
	for _, k := range []struct {
		outside, body string
		want          int32
	}{
		{"", "return 1 + 2;", 3},
		{"", "return -7 / 2 * 10 + -7 % 2;", -31},
		{"", "return 4294967295u / 2 > 5;", 1},
		{"", "return -1 > 0u;", 1},
		{"", "return -8 >> 1;", -4},
		{"", "return (4294967288u >> 1) == 2147483644;", 1},
		{"", "return (char)300;", 44},
		{"", "return (char)-1 + (int)(char)256;", 255},
		{"", "return (uint)(char)511;", 255},
		{"", "return !5 * 100 + !0 * 10 + ~-2;", 11},
		{"", "char c = 200; c += 100; return c;", 44},
		{"", "char c = 200; return (c += 100) * 1000 + c;", 44044},
		{"", "char c = 3; return c -= 4;", 255},
		{"", "char c = 7; c <<= 6; return c;", 192},
		{"", "int x = -8; x >>= 1; return x;", -4},
		{"", "int x = 7; x *= x += 3; return x;", 70},
		{"char g = 250;", "return (g += 10) * 1000 + g;", 4004},
		{"char g[2] = {250, 9};", "return (g[0] += 10) * 1000 + g[1];", 4009},
		{"struct s { char c; char d; int i; }; struct s v;", "v.c = 1; v.d = 2; v.i = -3; v.c -= 2; return v.c * 100 + v.d * 10 + v.i;", 25517},
		{"", "int x = 5; return x + (x = 2) * x;", 9},
		{"", "int x = 5; return x - (x -= 3);", 3},
		{"", "int x = 5; return (x = 1) + (x = 2) + (x = 3);", 6},
		{"", "int x = 5; x += (x = 2); return x;", 7},
		{"", "int x = 5; x = x + (x = 2) + x; return x;", 9},
		{"", "int x = 5, y = 1; return x + (y && (x = 2)) * 10 + x;", 17},
		{"", "int x = 5, y = 0; return x + (y && (x = 2)) * 10 + x;", 10},
		{"", "int x = 5, y = 1; return x + (y ? (x = 2) : 3) * 10 + x;", 27},
		{"", "int x = 5, y = 0; return x + (y ? (x = 2) : 3) * 10 + x;", 40},
		{"", "int x = 5, y = 0; return x * 100 + (x += y || (x = 1)) * 10 + x;", 566},
		{"", "int x = 1, y = 2; return x = y = x + y;", 3},
		{"", "int x = 1; return (x == 1 ? x : 9) + (x = 4);", 5},
		{"", "int x = 3; x = x && (x = 0) || x; return x;", 0},
		{"", "int x = 3; x = 0 || x - 3; return x;", 0},
		{"", "int x = 3; x = 1 ? x + 1 : (x = 9); return x;", 4},
		{"", "int x = 3; x = 0 ? (x = 9) : x + 2; return x;", 5},
		{"", "int x = 5; if (x * 10 + (x = 2) == 52) if (x * 10 + (x = 3) == 23) if (x + (x = 4) == 7) return x; return 0;", 4},
		{f, "int x = 1; return f(x, x = 2);", 12},
		{f, "int x = 1; return f(x = 3, x) * 100 + f(x, x += 1);", 3334},
		{f, "int x = 1; return f(x, x ? (x = 7) : 0) + f(x, !x || (x = 0));", 17 + 70},
		{f, "return f(f(1, 2), f(3, 4));", 154},
		{"int g = 1; int f() { g = 5; return 10; }", "return g + f() + g;", 16},
		{"int g = 1; int f() { g += 5; return 10; }", "g += f(); return g;", 11},
		{"int g = 1; int f() { g += 5; return 10; }", "g = f() + g; return g;", 16},
		{"int g[3]; int f() { g[1] = 7; return 1; }", "return g[f()] * 10 + (g[1] += f() + g[1]);", 85},
		{"int g[3];", "int i = 1; g[i] = i = 2; return g[1] * 100 + g[2] * 10 + i;", 202},
		{"int g[3];", "int i = 1; g[i] += (i = 2); g[i] -= i; return g[1] * 100 + g[2] * 10 + i;", 182},
		{"", "int a[3] = {1, 2, 0}; return a[a[a[0]]] * 10 + a[a[0]];", 2},
		{"", "char a[4] = \"abc\"; a[1] = 'z' + 256; return a[0] * 1000000 + a[1] * 1000 + a[2] + a[3];", 97122099},
		{"", "return 0 && 1 / 0 || 3;", 1},
		{"", "return 2 && 4;", 1}, {"", "return 2 && 0;", 0}, {"", "return 0 || 0;", 0}, {"", "return 7 || 1 / 0;", 1},
		{"", "int x = 256; return (x && 512) * 10 + (0 || x);", 11},
		{"", "int x = 2; return !x || x == 2 && !(x < 1) ? x > 5 ? 1 : 2 : 3;", 2},
		{"", "int x = 2; return !(x && !(x != 2)) + !!x * 10;", 10},
		{"", "int x = 2; return (x != 0 ? 1 : 2) * 100 + (x == 0 ? 1 : 2) * 10 + (x - 2 != 0 && x == 0 || x - 2 == 0 ? 3 : 4);", 123},
		{"", "int x = 2; if (x != 0) { if (x == 0) return 1; while (x != 0) x -= 1; if (x == 0 && !(x != 0)) return 5; } return 2;", 5},
		{"", "int x = 2; return (x == 1 ? 1 : 2) * 100 + (0 == x ? 1 : 2) * 10 + (x < 0 ? 1 : 2);", 222},
		{"", "char c = 0; return c ? 1 : (char)256 ? 2 : 3;", 3},
		{"", "return (1 ? -1 : 1u) > 0;", 1},
		{"", "return getbyte() * 1000 + getbyte();", 120121},
		{"", "getbyte(); getbyte(); getbyte(); return getbyte();", -1},
		{"", "return sizeof(int) + sizeof(char);", 5},
	} {
		wanted(t, inMain(k.outside, k.body), exit(k.want, ""))
	}
}

// Lo2: each statement.
func TestStatements(t *testing.T) {
	for _, k := range []struct {
		outside, body string
		code          int32
		out           string
	}{
		{"", "putbyte('a'); putbyte('b' + 256); putbyte(-1); return 0;", 0, "ab\xff"},
		{"", "; {} { ; } 5; return 0;", 0, ""},
		{"", "if (1) putbyte('a'); if (0) putbyte('b'); if (0) putbyte('c'); else putbyte('d'); if (2) putbyte('e'); else putbyte('f'); return 0;", 0, "ade"},
		{"", "int x = getbyte(); if (x) putbyte('a'); if (!x) putbyte('b'); if (x == 1) putbyte('c'); else putbyte('d'); if (x > 1) putbyte('e'); else putbyte('f'); return 0;", 0, "ade"},
		{"", "int x = 4; if (x) if (x - 4) putbyte('a'); else putbyte('b'); return x;", 4, "b"},
		{"", "if (getbyte()) return 1; else return 2;", 1, ""},
		{"", "int n = 3; while (n) { putbyte('0' + n); n -= 1; } return n;", 0, "321"},
		{"", "int n = 0; while (1) { n += 1; if (n == 2) continue; if (n > 4) break; putbyte('0' + n); } return n;", 5, "134"},
		{"", "int n = 0; while ((n += 1) < 6) { if (n == 2) continue; if (n > 4) break; putbyte('0' + n); } return n;", 5, "134"},
		{"", "while (0) putbyte('x'); while (0) { break; } return 1;", 1, ""},
		{"", "while (1) return 6;", 6, ""},
		{"", "int n = 0; do { n += 1; if (n == 2) continue; if (n == 4) break; putbyte('0' + n); } while (n < 9); return n;", 4, "13"},
		{"", "int n = 0; do { n += 1; continue; putbyte('x'); } while (n < 3); return n;", 3, ""},
		{"", "int n = 0; do n += 1; while (0); do break; while (1); do return n; while (1);", 1, ""},
		{"", "int i; for (i = 0; i < 5; i += 1) { if (i == 1) continue; if (i == 4) break; putbyte('0' + i); } return i;", 4, "023"},
		{"", "int i = 0; for (;;) { if (i == 3) break; i += 1; } for (; i < 5; ) i += 1; for (i += 10; 0; i = 0) ; return i;", 15, ""},
		{"", "int i; for (i = 0; 1; i += 1) { if (i == 3) return i; }", 3, ""},
		{"", "int i, j, n = 0; for (i = 0; i < 4; i += 1) { for (j = 0; ; j += 1) { if (j > i) break; if (j == 1) continue; n += 10 * i + j; } if (i == 2) continue; n += 1000; } return n;", 3000 + 0 + 10 + 20 + 22 + 30 + 32 + 33, ""},
		{"", "int i; for (putbyte('a'); (i += 1) < 3; putbyte('c')) putbyte('b'); return i;", 3, "abcbc"},
		{"void p(int x) { if (x) { putbyte(x); return; } putbyte('-'); }", "p('q'); p(0); int i; for (p('1'); i < 1; p('2')) i += 1; return 0;", 0, "q-12"},
		{"int f() { putbyte('f'); return 7; } char g() { return 300; }", "f(); return g() + f();", 51, "ff"},
		{"", "return 3; putbyte('x'); while (1) ; return 4;", 3, ""},
		{"", "while (1) { break; putbyte('x'); } { return 9; } putbyte('y');", 9, ""},
	} {
		wanted(t, inMain(k.outside, k.body), exit(k.code, k.out))
	}
}

// Lo2: what never ends does not.
func TestEndless(t *testing.T) {
	for _, body := range []string{
		"while (1) ;", "while (1) continue;", "for (;;) ;", "for (;;) { continue; } return 1;", "do ; while (1);", "do continue; while (2); return 1;",
		"int x = 1; while (x) { int a[40]; a[3] = 1; } return 2;", "for (;;) { for (;;) break; } return 3;",
	} {
		src := inMain("", "putbyte('a'); "+body)
		c := checked(t, src)
		a, b := held(t, src, c, made(t, src, c), "", 5000, 9)
		if a.Kind != api.EndFuel || b.Kind != api.EndFuel || a.Out != "a" || b.Out != "a" {
			t.Errorf("%s: %+v, and the source %+v", src, b, a)
		}
	}
}

// Lo2: variables are 0 each time that they are declared, and then have their values.
func TestDeclarations(t *testing.T) {
	const thrice = "int n, s = 0; for (n = 0; n < 3; n += 1) "
	const structs = "struct s { char c; int i; char d[5]; }; struct t { char a; char b; char c; }; struct u { int i; int l[200]; char c; };"
	for _, k := range []struct {
		body string
		want int32
	}{
		{"int x; char c; uint u; return x + c + u;", 0},
		{"int a[300]; char c[301]; struct u v; return a[299] + c[300] + v.l[199] + v.i + v.c;", 0},
		{thrice + "{ int x; x += n + 1; s = s * 10 + x; } return s;", 123},
		{thrice + "{ int x = 5; x += n; s = s * 10 + x; } return s;", 567},
		{thrice + "{ char x = n + 255; s = s * 1000 + x; } return s;", 255000001},
		{thrice + "{ int a[3]; a[n] += 4; a[2] += 1; s = s * 1000 + a[0] * 100 + a[1] * 10 + a[2]; } return s;", 401041005},
		{thrice + "{ char a[3]; a[n] += 4; a[2] += 1; s = s * 1000 + a[0] * 100 + a[1] * 10 + a[2]; } return s;", 401041005},
		{thrice + "{ int a[4] = {n, s}; a[2] += 1; a[3] += n; s += a[0] + a[1] + a[2] + a[3]; } return s;", 15},
		{thrice + "{ char a[7] = \"ab\"; s += a[0] + a[1] + a[2] + a[6]; a[n] += 9; a[6] += 3; } return s;", 585},
		{thrice + "{ struct s v; v.c += 1; v.i += n; v.d[4] += 2; s += v.c + v.i * 10 + v.d[4] * 100 + v.d[0]; v.d[0] = 77; } return s;", 633},
		{thrice + "{ struct t v; v.a += 1; v.b += 2; v.c += 3; s = s * 1000 + v.a * 100 + v.b * 10 + v.c; } return s;", 123123123},
		{thrice + "{ struct u v; v.i += 1; v.l[0] += 2; v.l[199] += 3; v.c += 4; s += v.i * 1000 + v.l[0] * 100 + v.l[199] * 10 + v.c; } return s;", 3 * 1234},
		{thrice + "{ int a[9]; int b[1000]; char c[37]; int i; for (i = 0; i < 9; i += 1) a[i] += i; for (i = 0; i < 1000; i += 1) b[i] += 1; for (i = 0; i < 37; i += 1) c[i] += 3; for (i = 0; i < 9; i += 1) s += a[i]; for (i = 0; i < 1000; i += 1) s += b[i]; for (i = 0; i < 37; i += 1) s += c[i]; } return s;", 3 * (36 + 1000 + 111)},
		{"int k[3] = {1, 2, 3}; int i, s = 0; while ((i += 1) < 4) { int l[12] = {i, k[1]}; k[1] += l[2] + l[11] + l[0]; l[2] = 50; l[11] = 60; s += l[1]; } return s * 100 + k[1];", 1008},
		{"int before[2] = {1, 2}; int n; for (n = 0; n < 2; n += 1) { int a[20]; a[0] = 9; a[19] = 9; } int after[2]; after[0] += 3; return before[0] * 1000 + before[1] * 100 + after[0] * 10 + after[1];", 1230},
		{"int n, s = 0; do { int a[10]; s += a[9] += 1; n += 1; } while (n < 4); return s;", 4},
		{"int n, s = 0; while (n < 4) if (n % 2) { int a[10]; s += a[9] += 1; n += 1; } else { int b[10]; s += b[9] += 10; n += 1; } return s;", 22},
		{"int x = 1, y; { int x = x + 1; { int x = 7; x += 1; } y = x; } return x * 10 + y;", 12},
	} {
		wanted(t, inMain(structs, k.body), exit(k.want, ""))
	}
}

// Lo1 and Lo2: what is handed on, in calls in calls too.
func TestArguments(t *testing.T) {
	const outside = `struct s { char c; int i; int l[3]; char d[5]; };
struct s gs; int gl[4] = {1, 2, 3, 4}; char gd[3] = "yz";
int sum(int a[]) { int i, s = 0; while (i < 9) { if (a[i] < 0) return s; s += a[i]; i += 1; } return -1; }
int at(int a[], int i) { return a[i]; }
uint uat(uint a[], uint i) { return a[i]; }
void say(char t[]) { int i = 0; while (t[i]) { putbyte(t[i]); i += 1; } }
void saytwice(char t[]) { say(t); say(t); }
void put(int a[], int i, int x) { a[i] = x; }
void putc(char a[], int i, char x) { a[i] = x; }
void set(struct s *p, int x) { p->i = x; p->c = x + 1; p->l[2] += x; p->d[4] -= x; }
void through(struct s *p) { set(p, 5); put(p->l, 0, 6); putc(p->d, 1, 7); }
int both(struct s *p, struct s *q) { p->i = 1; q->i = 2; return p->i; }
int many(char a[], int b[], uint c[], struct s *p, char x, int y) { return a[0] + b[1] * 10 + c[2] * 100 + p->i * 1000 + x * 10000 + y * 100000; }
int six(int a[], int b[], int c[], int d[], int e[], int f[]) { return a[0] + b[1] * 10 + c[2] * 100 + d[0] * 1000 + e[1] * 10000 + f[2] * 100000; }
`
	for _, k := range []struct {
		body string
		code int32
		out  string
	}{
		{"int a[3] = {4, 5, -1}; return sum(a);", 9, ""},
		{"return at(gl, 3) * 10 + at(gl, 0);", 41, ""},
		{"uint l[2] = {7, 4294967295u}; return uat(l, 0) + uat(l, 1);", 6, ""},
		{"say(\"one\"); saytwice(\"two\"); say(\"\"); say(gd); char l[9] = \"loc\"; saytwice(l); return 0;", 0, "onetwotwoyzlocloc"},
		{"int l[4]; put(l, 1, 5); put(gl, 2, 6); put(gs.l, 1, 7); struct s v; put(v.l, 2, 8); putc(v.d, 4, 300); return l[1] + gl[2] * 10 + gs.l[1] * 100 + v.l[2] * 1000 + v.d[4] * 100000;", 4408765, ""},
		{"struct s v; set(&v, 3); set(&v, 4); set(&gs, 250); return v.i + v.c * 10 + v.l[2] * 100 + v.d[4] * 1000 + gs.c * 1000000;", 4 + 50 + 700 + 249000 + 251000000, ""},
		{"struct s v; through(&v); through(&gs); return v.i + v.l[0] * 10 + v.d[1] * 100 + v.c * 1000 + gs.l[0] * 10000 + gs.d[1] * 100000;", 766765, ""},
		{"struct s v, w; return both(&v, &w) * 10 + both(&v, &v);", 12, ""},
		{"uint u[3] = {1, 2, 3}; gs.i = 4; return many(gd, gl, u, &gs, 261, 6);", 121 + 20 + 300 + 4000 + 50000 + 600000, ""},
		{"struct s v; v.l[1] = 8; v.l[2] = 9; int l[3] = {1, 2, 3}; return six(l, gl, v.l, gl, v.l, l);", 1 + 20 + 900 + 1000 + 80000 + 300000, ""},
	} {
		wanted(t, inMain(outside, k.body), exit(k.code, k.out))
	}
}

// Lo2: recursion, where each call has variables of its own.
func TestRecursion(t *testing.T) {
	wanted(t, "int f(int n) { return n < 2 ? n : f(n - 1) + f(n - 2); } int main() { return f(15); }", exit(610, ""))
	wanted(t, "int f(int n) { int a[9]; a[n] = n; if (n) f(n - 1); putbyte('0' + a[n] + a[8 - n]); return a[n]; } int main() { return f(3); }", exit(3, "0123"))
	wanted(t, "int odd(int n) { if (n == 0) return 0; return even(n - 1); } int even(int n) { if (n == 0) return 1; return odd(n - 1); } int main() { return odd(41) * 10 + even(41); }", exit(10, ""))
	wanted(t, "void h(int a[], int n) { if (n < 0) return; a[n] = n * n; h(a, n - 1); } int main() { int a[6]; h(a, 5); int i; for (i = 0; i < 6; i += 1) putbyte('a' + a[i]); return 0; }", exit(0, "abejqz"))
}

// Lo2: traps, and what was put ahead of them.
func TestTraps(t *testing.T) {
	const outside = `struct s { int i; char d[5]; int l[3]; int z; }; struct s gs; int gl[4]; char gd[3]; int one = 1;
int at(int a[], int i) { return a[i]; } int atc(struct s *p, uint i) { return p->d[i]; }
int say(int x) { putbyte('0' + x); return x; } void set(char a[], int i) { a[i] = 1; }
`
	for _, k := range []struct {
		body string
		trap int
		out  string
	}{
		{"return gl[4];", api.TrapBounds, ""},
		{"return gl[-1];", api.TrapBounds, ""},
		{"return gl[2147483648u];", api.TrapBounds, ""},
		{"return gl[1073741824];", api.TrapBounds, ""},
		{"gl[4] = say(1); return 0;", api.TrapBounds, ""},
		{"gl[one + 3] = say(1); return 0;", api.TrapBounds, ""},
		{"gl[say(4)] += say(1); return 0;", api.TrapBounds, "4"},
		{"int i; for (i = 0; ; i += 1) { gl[i] = 1; say(i); }", api.TrapBounds, "0123"},
		{"int i; for (i = 3; ; i -= 1) { gl[i] = 1; say(i); }", api.TrapBounds, "3210"},
		{"char l[3]; int i; for (i = 0; ; i += 1) { l[i] += 1; say(i); }", api.TrapBounds, "012"},
		{"int i; for (i = 0; ; i += 1) { gs.d[i] = 1; say(i); }", api.TrapBounds, "01234"},
		{"struct s v; int i; for (i = 0; ; i += 1) { v.l[i] = 1; say(i); }", api.TrapBounds, "012"},
		{"int i; for (i = 0; ; i += 1) { at(gl, i); say(i); }", api.TrapBounds, "0123"},
		{"int i; for (i = 0; ; i += 1) { at(gs.l, i); say(i); }", api.TrapBounds, "012"},
		{"int l[2]; int i; for (i = 0; ; i += 1) { at(l, i); say(i); }", api.TrapBounds, "01"},
		{"struct s v; int i; for (i = 0; ; i += 1) { atc(&v, i); say(i); }", api.TrapBounds, "01234"},
		{"int i; for (i = 0; ; i += 1) { set(gd, i); say(i); }", api.TrapBounds, "012"},
		{"int i; for (i = 0; ; i += 1) { set(gs.d, i); say(i); }", api.TrapBounds, "01234"},
		{"set(\"ab\", 2); say(1); set(\"ab\", 3); return 0;", api.TrapBounds, "1"},
		{"at(gl, say(5)) + say(6); return 0;", api.TrapBounds, "5"},
		{"int x = 0; return say(7) / x;", api.TrapDivide, "7"},
		{"int x = 0; return say(7) % (x & say(1));", api.TrapDivide, "71"},
		{"uint x; return 1 / x;", api.TrapDivide, ""}, {"uint x; return 1 % x;", api.TrapDivide, ""},
		{"int x = 5; x /= say(0); say(1); return 0;", api.TrapDivide, "0"},
		{"int x = 5; x %= say(0); say(1); return 0;", api.TrapDivide, "0"},
		{"gl[say(3)] /= say(0); say(1); return 0;", api.TrapDivide, "30"},
		{"gl[say(4)] /= say(0); say(1); return 0;", api.TrapBounds, "4"},
		{"1 / 0; say(1); return 0;", api.TrapDivide, ""},
		{"gl[9]; say(1); return 0;", api.TrapBounds, ""},
		{"int l[3] = {say(1), 1 / (one - 1), say(2)}; return l[0];", api.TrapDivide, "1"},
		{"int x = say(2) && say(0) || 1 / (one - one); return x;", api.TrapDivide, "20"},
	} {
		wanted(t, inMain(outside, k.body), trapped(k.trap, k.out))
	}
	wanted(t, inMain(outside, "return 0 && gl[9] || 1 || 1 / 0;"), exit(1, ""))
	wanted(t, inMain(outside, "return one ? say(3) : gl[9];"), exit(3, "3"))
}

package source

import (
	"reflect"
	"strings"
	"testing"

	"crucible/api"
	"crucible/check"
)

// checked is the checked program of a source that is one.
func checked(t *testing.T, src string) api.Checked {
	t.Helper()
	p, d, ok := check.Source(src)
	if !ok {
		t.Fatalf("%s: refused: %+v", src, d)
	}
	return p
}

func exit(code int32) api.End { return api.End{Kind: api.EndExit, Code: code} }

func put(s string) api.End { return api.End{Kind: api.EndExit, Out: s} }

func trapped(kind int) api.End { return api.End{Kind: api.EndTrap, Trap: kind} }

// ask holds a run of much fuel against its end, and against the model.
func ask(t *testing.T, src, input string, want api.End) {
	t.Helper()
	p := checked(t, src)
	if e, _ := sameAsModel(t, src, p, input, 1_000_000, 100); e != want {
		t.Errorf("%s\ninput %q: %+v, not %+v", src, input, e, want)
	}
}

func TestArguments(t *testing.T) {
	p := checked(t, "int main() { putbyte(getbyte()); return 7; }")
	long := strings.Repeat("x", api.MaxTape)
	for _, k := range []struct {
		input      string
		fuel, deep int
		want       api.Errno
	}{
		{"", -1, 1, api.ErrArg}, {"", -1 << 63, 1, api.ErrArg},
		{"", 9, -1, api.ErrArg}, {"", 9, api.MaxCalls + 1, api.ErrArg}, {"", 9, 1<<63 - 1, api.ErrArg}, {"", 9, -1 << 63, api.ErrArg},
		{long + "x", 9, 1, api.ErrLong}, {long + "x", 0, 0, api.ErrLong},
		{long + "x", -1, 1, api.ErrArg}, {long + "x", 9, -1, api.ErrArg},
		{long, 9, 1, api.OK}, {"", 0, 0, api.OK}, {"", 9, api.MaxCalls, api.OK}, {"", 1<<63 - 1, 1, api.OK},
	} {
		e, n, err := Run(p, k.input, k.fuel, k.deep)
		if err != k.want {
			t.Errorf("%d bytes, fuel %d, deep %d: %d, not %d", len(k.input), k.fuel, k.deep, err, k.want)
		}
		if err != api.OK && (e != api.End{} || n != 0) {
			t.Errorf("beside %d: %+v, %d", err, e, n)
		}
	}
	if e, n, err := Run(p, long, 8, 1); (e != api.End{Kind: api.EndExit, Code: 7, Out: "x", Used: 1}) || n != 1 || err != api.OK {
		t.Errorf("%+v, %d, %d", e, n, err)
	}
}

func TestPlaces(t *testing.T) {
	for _, k := range []struct {
		src  string
		want api.End
	}{
		{"int g = -5; int main() { return g; }", exit(-5)},
		{"char c = 300; int main() { return c; }", exit(44)},
		{"char c = 255; int main() { return c; }", exit(255)},
		{"int a[3] = {1, 2}; int main() { return a[0] * 100 + a[1] * 10 + a[2]; }", exit(120)},
		{"char a[] = \"ab\"; int main() { return a[0] * 10000 + a[1] * 10 + a[2] + sizeof a; }", exit(970983)},
		{"struct s { char c; int i; char d[3]; }; struct s v; int main() { v.c = 1; v.i = 2; v.d[0] = 3; v.d[2] = 4; return v.c * 1000 + v.i * 100 + v.d[0] * 10 + v.d[2] + v.d[1]; }", exit(1234)},
		{"int main() { int a[2]; a[0] = 1; a[1] = 2; { int a; a = 9; } return a[0] + a[1]; }", exit(3)},
		{"int a[2]; int main() { return a[2]; }", trapped(api.TrapBounds)},
		{"int a[2]; int main() { return a[-1]; }", trapped(api.TrapBounds)},
		{"int a[2]; int main() { return a[4294967295u]; }", trapped(api.TrapBounds)},
		{"int a[2]; int main() { return a[-2147483647 - 1]; }", trapped(api.TrapBounds)},
		{"int a[1024]; int main() { return a[1024]; }", trapped(api.TrapBounds)},
		{"int a[1024]; int main() { a[1023] = 6; return a[1023]; }", exit(6)},
		{"int a[3]; char c = 2; int main() { a[2] = 6; return a[c]; }", exit(6)},
		{"char c[2]; int main() { return c[2]; }", trapped(api.TrapBounds)},
		{"struct s { int a[2]; int b; }; struct s v; int main() { return v.a[2]; }", trapped(api.TrapBounds)},
		{"struct s { int b; int a[2]; int c; }; struct s v; int main() { v.a[0] = 5; v.a[1] = 6; return v.b + v.c; }", exit(0)},
		{"int a[3]; int main() { int i = 0; a[i = 1] = 4; return a[1] * 10 + i; }", exit(41)},
		{"uint u = 4294967295u; int main() { return u > 0; }", exit(1)},
		{"int g = 1; char c[5]; int h = 2; int main() { int i; for (i = 0; i < 5; i += 1) c[i] = 255; return g * 10 + h; }", exit(12)},
	} {
		ask(t, k.src, "", k.want)
	}
}

func TestAssignments(t *testing.T) {
	for _, k := range []struct {
		src  string
		want api.End
	}{
		{"int main() { int x = 5; return x + (x = 2) * x; }", exit(9)},
		{"int main() { int x = 5; return (x = 7) * 10 + x; }", exit(77)},
		{"int main() { int x = 5; x += x = 2; return x; }", exit(7)},
		{"int main() { int x = 5; x = x += 1; return x; }", exit(6)},
		{"char c; int main() { return c = 300; }", exit(44)},
		{"char c = 200; int main() { return (c += 100) * 1000 + c; }", exit(44044)},
		{"char c = 1; int main() { c -= 2; return c; }", exit(255)},
		{"char c = 200; int main() { c <<= 1; return c; }", exit(144)},
		{"char c = 200; int main() { c >>= 33; return c; }", exit(100)},
		{"int x = -8; int main() { x >>= 1; return x; }", exit(-4)},
		{"int x = -8; int main() { x >>= 1u; return x; }", exit(-4)},
		{"uint x = 4294967288u; int main() { x >>= 1; return x == 2147483644u; }", exit(1)},
		{"int x = -8; int main() { x /= 2u; return x; }", exit(2147483644)},
		{"int x = -7; int main() { x %= 4; return x; }", exit(-3)},
		{"char c = 100; int main() { c *= -1; return c; }", exit(156)},
		{"char c = 5; int main() { c /= -2; return c; }", exit(254)},
		{"char c = 5; int main() { c %= 256; return c; }", exit(5)},
		{"int x = 12; int main() { x &= 10; return x; }", exit(8)},
		{"int x = 12; int main() { x |= 3; return x; }", exit(15)},
		{"int x = 12; int main() { x ^= 10; return x; }", exit(6)},
		{"int x = 12; int main() { x /= 0; return x; }", trapped(api.TrapDivide)},
		{"int x = 12; int main() { x %= x - 12; return x; }", trapped(api.TrapDivide)},
		{"int a[2]; int main() { a[2] = 1 / 0; return 0; }", trapped(api.TrapBounds)},
		{"int a[2]; int main() { a[1 / 0] = a[2]; return 0; }", trapped(api.TrapDivide)},
		{"int a[2] = {3, 4}; int i; int main() { a[i] += i = 1; return a[0] * 10 + a[1]; }", exit(44)},
		{"int a[2] = {3, 4}; int f() { a[0] = 50; return 1; } int main() { a[0] += f(); return a[0]; }", exit(4)},
		{"int a[4]; int i; int main() { a[i += 1] = i += 1; return a[1] * 10 + i; }", exit(22)},
	} {
		ask(t, k.src, "", k.want)
	}
}

func TestReckonings(t *testing.T) {
	for _, k := range []struct {
		expr string
		want api.End
	}{
		{"-7 / 2 * 10 + -7 % 2", exit(-31)},
		{"1 / 0", trapped(api.TrapDivide)}, {"1 % 0", trapped(api.TrapDivide)}, {"1u / 0", trapped(api.TrapDivide)}, {"1u % 0u", trapped(api.TrapDivide)},
		{"(-2147483647 - 1) / -1", exit(-2147483648)}, {"(-2147483647 - 1) % -1", exit(0)},
		{"2147483647 + 1", exit(-2147483648)}, {"-1 < 0u", exit(0)}, {"-1 < 0", exit(1)}, {"-1 > 0u", exit(1)}, {"2 >= 2", exit(1)}, {"1 >= 2", exit(0)}, {"1 == 1u", exit(1)}, {"1 != 1", exit(0)}, {"1 <= 0", exit(0)},
		{"(char)-1", exit(255)}, {"(char)511", exit(255)}, {"(int)(char)256", exit(0)}, {"(uint)-1 > 1", exit(1)}, {"~0", exit(-1)}, {"!5", exit(0)}, {"!0", exit(1)}, {"-(3)", exit(-3)},
		{"1 << 33", exit(2)}, {"-8 >> 1", exit(-4)}, {"6 & 3 | 8 ^ 1", exit(11)},
		{"0 && 1 / 0", exit(0)}, {"1 && 1 / 0", trapped(api.TrapDivide)}, {"1 || 1 / 0", exit(1)}, {"0 || 1 / 0", trapped(api.TrapDivide)},
		{"5 && 7", exit(1)}, {"5 && 0", exit(0)}, {"0 || 7", exit(1)}, {"0 || 0", exit(0)}, {"7 || 0", exit(1)}, {"256 && 1", exit(1)}, {"0 || 256", exit(1)},
		{"1 ? 2 : 1 / 0", exit(2)}, {"0 ? 1 / 0 : 3", exit(3)}, {"256 ? 1 / 0 : 3", trapped(api.TrapDivide)}, {"(1 ? -1 : 0u) > 5", exit(1)},
		{"1 / 0 + 1 % 0", trapped(api.TrapDivide)},
	} {
		ask(t, "int main() { return "+k.expr+"; }", "", k.want)
	}
}

func TestInputAndOutput(t *testing.T) {
	for _, k := range []struct {
		src, input string
		want       api.End
	}{
		{"int main() { int c = getbyte(); while (c != -1) { putbyte(c + 1); c = getbyte(); } return 0; }", "ab", api.End{Kind: api.EndExit, Out: "bc", Used: 2}},
		{"int main() { getbyte(); getbyte(); getbyte(); return getbyte(); }", "a", api.End{Kind: api.EndExit, Code: -1, Used: 1}},
		{"int main() { return getbyte(); }", "\xff", api.End{Kind: api.EndExit, Code: 255, Used: 1}},
		{"int main() { return getbyte(); }", "\x00", api.End{Kind: api.EndExit, Used: 1}},
		{"int main() { putbyte(256 + 'a'); putbyte(-1); putbyte(0); return 0; }", "", put("a\xff\x00")},
		{"int main() { return getbyte() * 256 + getbyte(); }", "\x01\x02", api.End{Kind: api.EndExit, Code: 258, Used: 2}},
		{"int main() { putbyte(65); return 1 / (getbyte() - 120); }", "x", api.End{Kind: api.EndTrap, Trap: api.TrapDivide, Out: "A", Used: 1}},
		{"int main() { putbyte(1 / (getbyte() - 120)); return 0; }", "x", api.End{Kind: api.EndTrap, Trap: api.TrapDivide, Used: 1}},
		{"int a[2]; int main() { putbyte('a'); a[getbyte()] = getbyte(); putbyte('b'); return 0; }", "xyz", api.End{Kind: api.EndTrap, Trap: api.TrapBounds, Out: "a", Used: 1}},
		{"int main() { return getbyte() == -1 ? getbyte() : 3; }", "", exit(-1)},
	} {
		ask(t, k.src, k.input, k.want)
	}
}

func TestStatements(t *testing.T) {
	for _, k := range []struct {
		src  string
		want api.End
	}{
		{"int main() { int i, n; for (i = 0; i < 9; i += 1) { int x; x += i; if (i == 3) continue; if (i == 6) break; n += x; } return n; }", exit(12)},
		{"int main() { int i, n; for (i = 0; i < 3; i += 1) { int x = 1, y; x += 1; y += x; n += y; } return n; }", exit(6)},
		{"int main() { int i; for (i = 0; i < 2; i += 1) { int a[3] = {7}; putbyte('0' + a[0]); putbyte('0' + a[2]); a[0] = 1; a[2] = 2; } return 0; }", put("7070")},
		{"struct s { int i; }; int main() { int i, n; for (i = 0; i < 3; i += 1) { struct s v; v.i += 5; n += v.i; } return n; }", exit(15)},
		{"int main() { int a[3] = {1, 2, 3}; int b[3] = {a[2], a[1]}; return b[0] * 100 + b[1] * 10 + b[2]; }", exit(320)},
		{"int x = 3; int main() { int x = x + 1; return x; }", exit(4)},
		{"int main() { char s[4] = \"ab\"; return s[0] + s[1] + s[2] + s[3]; }", exit(195)},
		{"int main() { char s[] = {300, -1}; return s[0] * 1000 + s[1] + sizeof s; }", exit(44257)},
		{"int main() { if (0) return 1; else return 2; }", exit(2)},
		{"int main() { if (256) return 1; return 2; }", exit(1)},
		{"int main() { if (0) return 1; return 2; }", exit(2)},
		{"int main() { int i = 3; while (i) putbyte('0' + (i -= 1)); return i; }", put("210")},
		{"int main() { int i; do putbyte('a'); while ((i += 1) < 3); return i; }", api.End{Kind: api.EndExit, Code: 3, Out: "aaa"}},
		{"int main() { do putbyte('a'); while (0); return 0; }", put("a")},
		{"int main() { do { putbyte('a'); continue; putbyte('b'); } while (0); return 0; }", put("a")},
		{"int main() { do { putbyte('a'); break; } while (1); return 0; }", put("a")},
		{"int main() { int i; while ((i += 1) < 5) { if (i == 2) continue; if (i == 4) break; putbyte('0' + i); } return i; }", api.End{Kind: api.EndExit, Code: 4, Out: "13"}},
		{"int main() { int i; for (;;) { if ((i += 1) > 3) break; putbyte('0' + i); } return i; }", api.End{Kind: api.EndExit, Code: 4, Out: "123"}},
		{"int main() { int i; for (;; i += 1) { if (i < 3) continue; return i; } }", exit(3)},
		{"int main() { int i, j; for (i = 0; i < 3; i += 1) { for (j = 0; ; j += 1) { if (j == 2) break; if (i == 1) continue; putbyte('0' + i * 2 + j); } } return 0; }", put("0145")},
		{"int main() { int i, j; for (i = 0; i < 2; i += 1) { j = 0; do { while (1) { break; } if (j) continue; putbyte('a' + i); } while ((j += 1) < 3); } return 0; }", put("ab")},
		{"int main() { for (putbyte('1'); 0; putbyte('2')) putbyte('3'); return 0; }", put("1")},
		{"int main() { int n; for (putbyte('1'); n < 2; putbyte('2')) { putbyte('3'); n += 1; } return 0; }", put("13232")},
		{"int main() { for (;;) return 5; }", exit(5)},
		{"int main() { while (1) { do { for (;;) { return 6; } } while (1); } }", exit(6)},
		{"int main() { { { return 1; } } return 2; }", exit(1)},
		{"int main() { ; ; { } return 2; }", exit(2)},
		{"int main() { while (1) { { break; } } return 2; }", exit(2)},
	} {
		ask(t, k.src, "", k.want)
	}
}

func TestCalls(t *testing.T) {
	for _, k := range []struct {
		src  string
		want api.End
		most int
	}{
		{"int main() { return 0; }", exit(0), 1},
		{"int f(int n) { return n < 2 ? n : f(n - 1) + f(n - 2); } int main() { return f(10); }", exit(55), 11},
		{"void f() { } int main() { f(); f(); return 3; }", exit(3), 2},
		{"void f(int x) { if (x) return; putbyte('a'); } int main() { f(1); f(0); return 0; }", put("a"), 2},
		{"char f(int x) { return x; } int main() { return f(300); }", exit(44), 2},
		{"int f(char x) { return x; } int main() { return f(300); }", exit(44), 2},
		{"int f(char a, int b, uint c) { return a * 100 + b * 10 + c; } int main() { return f(1, 2, 3); }", exit(123), 2},
		{"int f(int a, int b) { return a * 10 + b; } int main() { return f(f(1, 2), f(3, 4)); }", exit(154), 2},
		{"int f(int a) { return a; } int main() { int x = 1; return f(x) * 100 + f(x = 2) * 10 + f(x + f(x)); }", exit(124), 2},
		{"int f(int a, int b, int c) { return a * 100 + b * 10 + c; } int main() { int x = 1; return f(x, x = 2, x + 1); }", exit(123), 2},
		{"int f(int n) { int x; x += n; n = 50; return x; } int main() { int n = 3; f(9); return f(n) * 10 + n; }", exit(33), 2},
		{"int f(int n) { int x = n; if (n) f(n - 1); return x; } int main() { return f(5); }", exit(5), 7},
		{"void set(int a[], int i) { a[i] = 4; } struct s { int z[3]; }; struct s v; int get(struct s *p) { return p->z[1]; } int main() { set(v.z, 1); return get(&v); }", exit(4), 2},
		{"void set(int a[], int i) { a[i] = 4; } int main() { int l[2]; set(l, 1); set(l, 2); return l[1]; }", trapped(api.TrapBounds), 2},
		{"void f(int a[], int i) { a[i] = 7; } void g(int a[]) { f(a, 2); a[1] = 8; } int main() { int l[3]; g(l); return l[1] * 10 + l[2]; }", exit(87), 3},
		{"int f(int a[]) { return a[3]; } int g(int a[]) { return f(a); } int main() { int l[3]; int m[4]; m[3] = 5; putbyte('0' + g(m)); return g(l); }", api.End{Kind: api.EndTrap, Trap: api.TrapBounds, Out: "5"}, 3},
		{"int f(char s[]) { int i; while (s[i]) { putbyte(s[i]); i += 1; } return i; } int main() { return f(\"abc\") * 10 + f(\"\"); }", api.End{Kind: api.EndExit, Code: 30, Out: "abc"}, 2},
		{"int f(char s[]) { s[0] += 1; return s[0]; } int main() { int i, n; for (i = 0; i < 3; i += 1) n = f(\"a\"); return n; }", exit(100), 2},
		{"int f(char s[]) { return s[3]; } int main() { return f(\"ab\"); }", trapped(api.TrapBounds), 2},
		{"int f(char s[]) { return s[2]; } int main() { return f(\"ab\"); }", exit(0), 2},
		{"struct s { int i; char c[3]; }; void g(struct s *p, int n) { p->i += n; p->c[1] = n; } void f(struct s *p) { g(p, 5); g(p, 6); } int main() { struct s v; v.i = 1; f(&v); return v.i * 10 + v.c[1]; }", exit(126), 3},
		{"struct s { int i; char c[3]; int j; }; void f(char a[]) { a[0] = 1; a[2] = 3; } int main() { struct s v; f(v.c); return v.i + v.j + v.c[0] * 100 + v.c[1] * 10 + v.c[2]; }", exit(103), 2},
		{"struct s { int i; char c[3]; int j; }; void f(char a[]) { a[3] = 1; } int main() { struct s v; f(v.c); return 0; }", trapped(api.TrapBounds), 2},
		{"struct s { int i; int c[3]; }; int h(int a[], int i) { return a[i]; } int f(struct s *p, int i) { return h(p->c, i); } int main() { struct s v; v.c[2] = 8; return f(&v, 2); }", exit(8), 3},
		{"int f(int a[], int b[]) { a[0] = 1; b[0] = 2; return a[0]; } int main() { int l[1]; return f(l, l); }", exit(2), 2},
		{"int f(int n, int a[]) { int l[2]; a[0] = n; if (n) { f(n - 1, l); return a[0] * 10 + l[0]; } return 0; } int main() { int l[1]; return f(4, l); }", exit(43), 6},
		{"int g; int f() { return g += 1; } int main() { return f() * 100 + f() * 10 + f(); }", exit(123), 2},
		{"int odd(int n) { return n ? even(n - 1) : 0; } int even(int n) { return n ? odd(n - 1) : 1; } int main() { return even(7) * 10 + odd(7); }", exit(1), 9},
	} {
		p := checked(t, k.src)
		if e, n := sameAsModel(t, k.src, p, "", 100000, 100); e != k.want || n != k.most {
			t.Errorf("%s: %+v, %d calls; not %+v, %d", k.src, e, n, k.want, k.most)
		}
	}
}

// TestNothingChanges asks that a program is left as it is, and means the same each time.
func TestNothingChanges(t *testing.T) {
	src := randomSource(7) + "struct t { int i; }; int a[3] = {1, 2}; "
	p, again := checked(t, src), checked(t, src)
	e, n, _ := Run(p, "abc", 20000, 50)
	for range 3 {
		if f, m, _ := Run(p, "abc", 20000, 50); f != e || m != n {
			t.Errorf("%+v, %d, then %+v, %d", e, n, f, m)
		}
	}
	if !reflect.DeepEqual(p, again) {
		t.Error("the program has changed")
	}
}

package source

import (
	"strings"
	"testing"

	"crucible/api"
	"crucible/check"
)

// TestFuel counts what each term spends: a run of so much fuel ends otherwise than EndFuel, one of a little less does not.
func TestFuel(t *testing.T) {
	for _, k := range []struct {
		outside, body string
		cost          int
	}{
		{"", "return 0;", 3},
		{"", "; return 0;", 4},
		{"", "{ } return 0;", 4},
		{"int x;", "return x;", 3},
		{"char x;", "return x;", 4},
		{"int a[2];", "return a[1];", 4},
		{"int a[2];", "return a[2];", 4},
		{"int x;", "x = 1; return 0;", 7},
		{"int x;", "x += 1; return 0;", 7},
		{"int a[2];", "a[1] = 1; return 0;", 8},
		{"int a[2];", "a[1] <<= 1; return 0;", 8},
		{"int a[2];", "a[2] = 1; return 0;", 5},
		{"struct s { int i; }; struct s v;", "v.i = 1; return 0;", 7},
		{"", "return 1 + 2;", 5},
		{"", "return 1 / 0;", 5},
		{"", "return 1 > 2;", 7},
		{"", "return 0 && 1;", 4}, {"", "return 1 && 1;", 5}, {"", "return 1 || 1;", 4}, {"", "return 0 || 1;", 5},
		{"", "return 1 ? 2 : 3 + 4;", 5}, {"", "return 0 ? 2 : 3 + 4;", 7},
		{"", "return getbyte();", 3},
		{"", "putbyte(1); return 0;", 6},
		{"int f() { return 1; }", "return f();", 6},
		{"void f() { }", "f(); return 0;", 6},
		{"void f() { return; }", "f(); return 0;", 7},
		{"int f(int a, int b) { return a; }", "return f(1, 2);", 8},
		{"int b[2]; int f(int a[], int n) { return n; }", "return f(b, 3);", 7},
		{"int b[2]; int f(int a[], int c[]) { return 1; }", "return f(b, b);", 6},
		{"struct s { int i; int l[2]; }; struct s v; int f(struct s *p, int a[]) { return p->i; }", "return f(&v, v.l);", 6},
		{"int f(char a[]) { return 1; }", "return f(\"x\");", 6},
		{"", "int x; return 0;", 4},
		{"", "int x = 1; return 0;", 5},
		{"", "char x = 1; return 0;", 6},
		{"", "int a[3] = {1, 2}; return 0;", 6},
		{"", "char a[3] = \"ab\"; return 0;", 6},
		{"", "char a[] = \"ab\"; return 0;", 6},
		{"", "int x, y; return 0;", 5},
		{"", "if (0) ; return 0;", 5}, {"", "if (1) ; return 0;", 6}, {"", "if (0) ; else { ; } return 0;", 7},
		{"", "while (0) ; return 0;", 5}, {"", "while (1) break; return 0;", 6},
		{"", "do ; while (0); return 0;", 6}, {"", "do break; while (1); return 0;", 5}, {"", "do continue; while (0); return 0;", 6},
		{"", "for (; 0; ) ; return 0;", 5}, {"", "for (; 0; ) { ; } return 0;", 5},
		{"", "for (;;) break; return 0;", 5},
		{"", "for (;;) { break; } return 0;", 6},
		{"", "for (;;) return 0;", 4},
		{"", "for (1; 0; 2) ; return 0;", 6},
		{"int i;", "for (i = 0; i < 2; i += 1) ; return 0;", 24},
		{"int i;", "for (i = 0; i < 2; i += 1) continue; return 0;", 24},
		{"int i;", "for (; i < 2; ) i += 1; return 0;", 21},
		{"int i;", "for (; (i += 1) < 3; ) ; return 0;", 21},
		{"int i;", "while ((i += 1) < 3) continue; return 0;", 21},
		{"int i;", "do ; while ((i += 1) < 3); return 0;", 22},
	} {
		src := k.outside + " int main() { " + k.body + " }"
		p := checked(t, src)
		if e, _ := sameAsModel(t, src, p, "x", k.cost, 9); e.Kind == api.EndFuel {
			t.Errorf("%s: %d are too few", src, k.cost)
		}
		if e, _ := sameAsModel(t, src, p, "x", k.cost-1, 9); e.Kind != api.EndFuel {
			t.Errorf("%s: one less than %d is enough", src, k.cost)
		}
	}
}

// TestFuelEnds looks at what was done where no fuel was left.
func TestFuelEnds(t *testing.T) {
	for _, k := range []struct {
		src        string
		fuel, deep int
		want       api.End
		most       int
	}{
		{"int main() { return 7; }", 0, 9, api.End{}, 1},
		{"int main() { return 7; }", 2, 9, api.End{}, 1},
		{"int main() { return 7; }", 9, 0, api.End{}, 0},
		{"int main() { return 7; }", 0, 0, api.End{}, 0},
		{"int main() { while (1) ; }", 100000, 9, api.End{}, 1},
		{"int main() { for (;;) ; }", 100000, 9, api.End{}, 1},
		{"int main() { do ; while (1); }", 100000, 9, api.End{}, 1},
		{"int main() { for (;;) { continue; } }", 100001, 9, api.End{}, 1},
		{"int main() { putbyte('a'); putbyte('b'); return 0; }", 3, 9, api.End{}, 1},
		{"int main() { putbyte('a'); putbyte('b'); return 0; }", 4, 9, api.End{Out: "a"}, 1},
		{"int main() { putbyte('a'); putbyte('b'); return 0; }", 6, 9, api.End{Out: "a"}, 1},
		{"int main() { putbyte('a'); putbyte('b'); return 0; }", 7, 9, api.End{Out: "ab"}, 1},
		{"int main() { return getbyte() + getbyte(); }", 3, 9, api.End{}, 1},
		{"int main() { return getbyte() + getbyte(); }", 4, 9, api.End{Used: 1}, 1},
		{"int main() { while (1) putbyte('x'); }", 1 + 1 + 10*4, 9, api.End{Out: "xxxxxxxxxx"}, 1},
		{"int f() { return f(); } int main() { return f(); }", 1000000, 50, api.End{}, 50},
		{"int f() { return f(); } int main() { return f(); }", 1000000, api.MaxCalls, api.End{}, api.MaxCalls},
		{"int f() { return f(); } int main() { return f(); }", 3 * 20, 50, api.End{}, 21},
		{"int f() { return 1; } int main() { return f(); }", 3, 2, api.End{}, 2},
		{"int f() { return 1; } int main() { return f(); }", 2, 2, api.End{}, 1},
		{"int f(int x) { putbyte('b'); return x; } int main() { putbyte('a'); return f(getbyte()); }", 1000, 1, api.End{Out: "a", Used: 1}, 1},
		{"int f(int x) { putbyte('b'); return x; } int main() { putbyte('a'); return f(getbyte()); }", 1000, 2, api.End{Kind: api.EndExit, Code: 'x', Out: "ab", Used: 1}, 2},
		{"int f(int x) { return x; } int main() { f(1); f(f(f(2))); return 5; }", 1000, 2, api.End{Kind: api.EndExit, Code: 5}, 2},
		{"int f(int x) { return x; } int main() { return f(1 / 0); }", 1000, 1, api.End{Kind: api.EndTrap, Trap: api.TrapDivide}, 1},
	} {
		if k.want.Kind == 0 {
			k.want.Kind = api.EndFuel
		}
		p := checked(t, k.src)
		if e, n := sameAsModel(t, k.src, p, "xyz", k.fuel, k.deep); e != k.want || n != k.most {
			t.Errorf("%s, fuel %d, deep %d: %+v, %d calls; not %+v, %d", k.src, k.fuel, k.deep, e, n, k.want, k.most)
		}
	}
}

// more asks that a run of more fuel or deep goes on as one of less did.
func more(t *testing.T, src string, less, e api.End) {
	t.Helper()
	if less.Kind != api.EndFuel && less != e {
		t.Fatalf("%s: %+v, with more %+v", src, less, e)
	}
	if !strings.HasPrefix(e.Out, less.Out) || e.Used < less.Used {
		t.Fatalf("%s: %+v, with more %+v", src, less, e)
	}
}

// TestMoreFuel runs programs with each fuel from 0 on, and each deep.
func TestMoreFuel(t *testing.T) {
	for seed := range int64(60) {
		src := randomSource(10000 + seed)
		p, _, ok := check.Source(src)
		if !ok {
			continue
		}
		var last api.End
		last.Kind = api.EndFuel
		for fuel := range 700 {
			e, _ := sameAsModel(t, src, p, "input of it", fuel, 20)
			more(t, src, last, e)
			last = e
		}
		last = api.End{Kind: api.EndFuel}
		for deep := range 20 {
			e, n := sameAsModel(t, src, p, "input of it", 3000, deep)
			if n > deep {
				t.Fatalf("%s: %d calls, deep %d", src, n, deep)
			}
			more(t, src, last, e)
			last = e
			if e.Kind == api.EndTrap && e.Trap != api.TrapDivide && e.Trap != api.TrapBounds {
				t.Fatalf("%s: %+v", src, e)
			}
		}
	}
}

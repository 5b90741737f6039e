package lower

import (
	"strconv"
	"strings"
	"testing"

	"crucible/api"
	"crucible/check"
	"crucible/irrun"
	"crucible/source"
)

// termsOf is how many terms a term has, itself counted.
func termsOf(t api.Term) int {
	n := 1
	for _, k := range t.Kids {
		n += termsOf(k)
	}
	return n
}

// isSmall tells whether a program is small, as the words have it, and how many terms its greatest function has.
func isSmall(c api.Checked) (bool, int) {
	all, most := 0, 0
	for _, r := range c.Routines {
		n, bytes := termsOf(r.Body), 0
		for _, v := range r.Vars {
			switch v.Type.Kind {
			case api.TypeArray:
				bytes += (v.Type.Len*map[int]int{api.TypeChar: 1, api.TypeInt: 4, api.TypeUint: 4}[v.Type.Elem] + 3) / 4 * 4
			case api.TypeStruct:
				bytes += (c.Records[v.Type.Struct].Size + 3) / 4 * 4
			}
		}
		if bytes > api.MaxFrame/2 {
			return false, n
		}
		all, most = all+n, max(most, n)
	}
	return all <= 3000 && most <= 500, most
}

// filled is the greatest small program of functions whose bodies have a statement again and again, each time with another number for its `#`.
func filled(t *testing.T, statement string) api.Checked {
	t.Helper()
	var best api.Checked
	for low, high := 1, 1000; low < high; {
		times := (low + high) / 2
		var text strings.Builder
		text.WriteString("struct s { int i; char c; int l[9]; }; struct s gs; int g[5]; int x; void e(int a[], int b[], int c[], int d[], int e[], int f[]) { }\n")
		for i := range 5 {
			text.WriteString("void f" + strconv.Itoa(i) + "(int a[], struct s *p, int y) { while (y) { ")
			for j := range times {
				text.WriteString(strings.ReplaceAll(statement, "#", strconv.Itoa(j)))
			}
			text.WriteString(" } }\n")
		}
		text.WriteString("int main() { return 0; }")
		c, _, ok := check.Source(text.String())
		if small, _ := isSmall(c); ok && small {
			best, low = c, times+1
		} else {
			high = times
		}
	}
	if _, most := isSmall(best); most < 190 {
		t.Fatalf("%s: at most %d terms", statement, most)
	}
	return best
}

// Lo1: no small program is refused, whatever its functions are of.
func TestSmall(t *testing.T) {
	deep := func(ahead, inner, behind string) string {
		return strings.Repeat(ahead, 90) + inner + strings.Repeat(behind, 90)
	}
	for _, statement := range []string{
		";", "{ }", "if (y) ;", "if (y) ; else ;", "while (y) ;", "while (y) { if (y) continue; break; }", "do ; while (y);", "do { if (y) continue; break; } while (y);",
		"for (;;) break;", "for (y; y; y) continue;", "y && y;", "y || y && !y;", "y ? y : y;", "x = x;", "g[y] += g[y];", "a[y] = a[x];", "p->l[y] *= p->c;",
		"e(a, a, a, a, a, a);", "e(p->l, gs.l, p->l, g, p->l, a);", "int v#[9];", "char v#[161];", "int v#;", "struct s v#;", "int v#[2] = {1, 2};", "char v#[64] = \"0123456789012345678901234567890123456789\";",
		"return;", "putbyte((char)getbyte());",
		deep("a[", "0", "]") + ";", deep("g[x = ", "0", "]") + ";", deep("p->l[gs.l[", "0", "]]") + ";", deep("!", "y", "") + ";", deep("(y && ", "y", ")") + ";", deep("(y || ", "y", ")") + ";",
		deep("(y && !", "y", ")") + ";", deep("(y ? x : ", "y", ")") + ";", deep("(y + ", "y", ")") + ";", deep("(char)-", "y", "") + ";", deep("(x <= ", "y", ")") + ";",
		deep("if (y) ", ";", ""), deep("while (y) ", ";", ""), deep("do ", ";", " while (y);"), deep("for (;x;) ", "break;", ""), deep("if (y) ; else ", ";", ""), deep("{", ";", "}"),
	} {
		c := filled(t, statement)
		p := made(t, statement, c)
		most := 0
		for _, f := range p.Funcs {
			most = max(most, len(f.Blocks))
		}
		_, terms := isSmall(c)
		t.Logf("%.40s: %d terms, %d blocks, %d registers", statement, terms, most, p.Funcs[1].Regs)
	}
}

// Lo1: a function that is more than layer 14 lets is refused; up to there it is told, and means what it does.
func TestTooGreat(t *testing.T) {
	for _, k := range []struct {
		name, statement string
		few, many       int
	}{
		{"blocks", "if (x) ;", 1500, 4200},
		{"blocks of loops", "while (x) ;", 1000, 4200},
		{"blocks of choices", "x && x && x && x && x && x;", 300, 2000},
		{"instructions", strings.Repeat("!", 150) + "x;", 100, 400},
		{"other instructions", strings.Repeat("-~", 75) + "x;", 100, 400},
		{"stores", "x=1;", 5000, 16000},
	} {
		program := func(times int) api.Checked {
			return checked(t, inMain("int x;", strings.Repeat(k.statement, times)+" return x;"))
		}
		if k.name != "stores" {
			refusedAsFull(t, k.name, program(k.many))
		}
		low, high := k.few, k.many // low is let
		for high-low > 1 {
			times := (low + high) / 2
			if _, err := Lower(program(times)); err == api.OK {
				low = times
			} else {
				high = times
			}
		}
		wantedEnd(t, k.name, program(k.few))
		wantedEnd(t, k.name, program(low))
		t.Logf("%s: up to %d times", k.name, low)
	}
}

// wantedEnd asks that a program is lowered, and ends as the source does.
func wantedEnd(t *testing.T, name string, c api.Checked) {
	t.Helper()
	if a, b := held(t, name, c, made(t, name, c), "", 1_000_000, 100); a != b {
		t.Errorf("%s: %+v, and the source %+v", name, b, a)
	}
}

// Lo1: one function that is too great is enough, wherever it stands.
func TestOneTooGreat(t *testing.T) {
	great := "void great(int x) { " + strings.Repeat("if (x) ;", 3000) + " }"
	refusedAsFull(t, "ahead", checked(t, great+"int main() { return 0; }"))
	refusedAsFull(t, "behind", checked(t, "int main() { return 0; }"+great))
}

// Lo1: as many functions as may be, and as many bytes of slots.
func TestMost(t *testing.T) {
	var text strings.Builder
	for i := range api.MaxFuncs - 1 {
		text.WriteString("int f" + strconv.Itoa(i) + "(int x) { return x + " + strconv.Itoa(i) + "; }\n")
	}
	text.WriteString("int main() { return f0(1) + f254(2) + f100(3); }")
	wantedEnd(t, "256 functions", checked(t, text.String()))

	var arrays strings.Builder
	for i := range 16 {
		arrays.WriteString("int v" + strconv.Itoa(i) + "[1024]; ")
	}
	src := "int n; void f() { " + arrays.String() + " v0[0] = n; v15[1023] = n; putbyte('0' + n); n -= 1; if (n >= 0) f(); putbyte('a' + v0[0] + v15[1023]); } int main() { n = getbyte() - '0'; f(); return 0; }"
	c := checked(t, src)
	p := made(t, src, c)
	if p.Funcs[0].Slots != api.MaxFrame {
		t.Errorf("slots: %d", p.Funcs[0].Slots)
	}
	// The stack has room for four such calls.
	if _, b := held(t, src, c, p, "3", 100_000, 100); b != (api.End{Kind: api.EndExit, Out: "3210aceg", Used: 1}) {
		t.Errorf("four calls: %+v", b)
	}
	if _, b := held(t, src, c, p, "4", 100_000, 100); b != (api.End{Kind: api.EndTrap, Trap: api.TrapStack, Out: "4321", Used: 1}) {
		t.Errorf("five calls: %+v", b)
	}
}

// Lo2: with as much deep as the source needs the end is the same; with less it is TrapStack, having put a beginning.
func TestDeep(t *testing.T) {
	src := "int f(int n) { putbyte('a' + n); if (n == 0) return 1; int r = f(n - 1); putbyte('A' + n); return r + 1; } int main() { return f(9); }"
	c := checked(t, src)
	p := made(t, src, c)
	whole, calls, _ := source.Run(c, "", 100_000, 100)
	if calls != 11 {
		t.Fatalf("%d calls", calls)
	}
	for deep := range 20 {
		e := irrun.Run(p, "", plenty, deep)
		if deep >= calls && e != whole {
			t.Errorf("deep %d: %+v, not %+v", deep, e, whole)
		}
		if deep < calls && (!isStackTrap(e) || !strings.HasPrefix(whole.Out, e.Out) || len(e.Out) != max(0, deep-1)) {
			t.Errorf("deep %d: %+v", deep, e)
		}
	}
	src = "int f(int n) { int t[8]; t[n & 7] = n; return f(n + 1) + t[n & 7]; } int main() { return f(0); }"
	c = checked(t, src)
	if e := irrun.Run(made(t, src, c), "", plenty, 1<<30); !isStackTrap(e) {
		t.Errorf("calls without end: %+v", e)
	}
}

package check

import (
	"strconv"
	"strings"
	"testing"

	"crucible/api"
)

// each joins what is made for the numbers 0 to n-1.
func each(n int, between string, part func(i int) string) string {
	l := make([]string, n)
	for i := range l {
		l[i] = part(i)
	}
	return strings.Join(l, between)
}

func wantLimit(t *testing.T, sources ...string) {
	t.Helper()
	for _, src := range sources {
		wantDiag(t, api.DiagLimit, src)
	}
}

func TestHowManyFunctions(t *testing.T) {
	some := func(n int) string {
		return each(n, " ", func(i int) string { return "void f" + strconv.Itoa(i) + "() { }" })
	}
	if c := wantRight(t, some(255)+lastMain); len(c.Routines) != 256 || c.Main != 255 {
		t.Errorf("256 functions: %d, main is %d", len(c.Routines), c.Main)
	}
	wantLimit(t, some(256)+" @int main() { return 0; }", lastMain+some(255)+" @void g() { }", lastMain+some(255)+" @void g() { } void h() { y; }", lastMain+some(255)+" @void g(int a, int b, int c, int d, int e, int f, int g) { }")
	wantWrong(t, lastMain+some(255)+" @void f7() { }", lastMain+some(255)+" void g(@void x) { }", lastMain+some(255)+" @struct s g() { }")
}

func TestHowManyParameters(t *testing.T) {
	some := func(n int) string { return each(n, ", ", func(i int) string { return "int p" + strconv.Itoa(i) }) }
	wantAllRight(t, "void f("+some(6)+") { }"+lastMain, "void f("+some(5)+") { }"+lastMain)
	wantLimit(t, "@void f("+some(7)+") { }"+lastMain, "@void f("+some(8)+") { y; }"+lastMain, "@void f("+some(200)+") { }"+lastMain, "void g() { y; } @void f("+some(7)+") { }"+lastMain)
	wantWrong(t, "void f("+some(7)+", @int p0) { }"+lastMain, "int f; @void f("+some(7)+") { }"+lastMain, "void f("+some(200)+", @void x) { }"+lastMain, "void f("+some(200)+", @int p3) { }"+lastMain)
	// With the 201st parameter there are more variables than may be.
	wantLimit(t, "void f("+some(200)+", @int x) { }"+lastMain, "int f; void f("+some(200)+", @int x, void y) { }"+lastMain)
	wantLimit(t, "@int main("+some(7)+") { return 0; }")
}

func TestHowManyVariables(t *testing.T) {
	some := func(n int) string {
		return each(n, " ", func(i int) string { return "char v" + strconv.Itoa(i) + ";" })
	}
	if c := wantRight(t, "void f() { "+some(200)+" }"+lastMain); len(c.Routines[0].Vars) != 200 {
		t.Errorf("200 variables: %d", len(c.Routines[0].Vars))
	}
	wantAllRight(t, "void f(int a, int b, int c[]) { "+some(197)+" }"+lastMain, "void f(int a, int b[]) { { "+some(100)+" } { "+some(98)+" } }"+lastMain, "void f() { "+some(200)+" } void g() { "+some(200)+" }"+lastMain, each(300, " ", func(i int) string { return "char v" + strconv.Itoa(i) + ";" })+lastMain)
	wantLimit(t, "void f() { "+some(200)+" int @x; y; }"+lastMain, "void f() { "+some(200)+" { int @x, y; } }"+lastMain, "void f() { { "+some(100)+" } { "+some(100)+" } int @x; }"+lastMain, "void f(int a, int b, int c[]) { "+some(197)+" int @x; }"+lastMain, "void f() { "+some(199)+" int x, @z; }"+lastMain)
	wantWrong(t, "void f() { "+some(200)+" int @v3; }"+lastMain, "void f() { "+some(200)+" void @x; }"+lastMain, "void f() { "+some(200)+" int x[@0]; }"+lastMain, "void f() { "+some(200)+" int x = @x; }"+lastMain)
}

func TestHowManyMembers(t *testing.T) {
	some := func(n int) string {
		return each(n, " ", func(i int) string { return "char m" + strconv.Itoa(i) + ";" })
	}
	if c := wantRight(t, "struct s { "+some(32)+" };"+lastMain); len(c.Records) != 1 || c.Records[0].Size != 32 {
		t.Errorf("32 members: %+v", c.Records)
	}
	wantLimit(t, "@struct s { "+some(33)+" };"+lastMain, "@struct s { "+some(32)+" int m3; };"+lastMain, "@struct s { "+some(40)+" };"+lastMain)
	wantWrong(t, "struct s { "+some(33)+" void @x; };"+lastMain, "struct s { int a; }; @struct s { "+some(33)+" };"+lastMain, "@struct s { "+some(31)+" int m3; };"+lastMain)
}

func TestHowLongArrays(t *testing.T) {
	for _, where := range []struct{ ahead, behind string }{{"", lastMain}, {"int main() { ", " return 0; }"}} {
		list := func(n int) string { return "{" + each(n, ", ", strconv.Itoa) + "}" }
		text := func(n int) string { return `"` + strings.Repeat("a", n) + `"` }
		wantAllRight(t, where.ahead+"int x[1024];"+where.behind, where.ahead+"char x[1024u];"+where.behind, where.ahead+"char x[1];"+where.behind, where.ahead+"int x[] = "+list(1024)+";"+where.behind, where.ahead+"char x[] = "+text(1023)+";"+where.behind, where.ahead+"char x[1024] = "+text(1023)+";"+where.behind, where.ahead+"int x[1024] = "+list(1024)+";"+where.behind)
		for _, s := range []string{
			"int x[@1025];", "int x[@1025u];", "int x[@2147483647];", "char x[@4294967295];", "char x[@0 - 1u];", "char x[@1024 + 1] = {y};", "int @x[] = " + list(1025) + ";", "char @x[] = " + text(1024) + ";", "int @x[] = " + text(1024) + ";", "int @x[] = " + strings.Replace(list(1025), "7", "y", 1) + ";",
		} {
			wantLimit(t, where.ahead+s+where.behind)
		}
		wantWrong(t, where.ahead+"char x[1024] = @"+text(1024)+";"+where.behind, where.ahead+"int x[1024] = @"+list(1025)+";"+where.behind, where.ahead+"void @x[1025];"+where.behind, where.ahead+"int @x[] = 1025;"+where.behind)
	}
	wantLimit(t, "struct s { int a[@1025]; };"+lastMain, "struct s { int a[@2000]; void b; };"+lastMain)
	// A string that is an argument becomes an array, too.
	call := func(n int) string {
		return "void f(char a[]) { } int main() { f(@\"" + strings.Repeat("a", n) + "\"); return 0; }"
	}
	wantRight(t, strings.Replace(call(1023), "@", "", 1))
	wantLimit(t, call(1024), call(2000))
}

func TestHowManyBytesOfGlobals(t *testing.T) {
	some := func(n int) string {
		return each(n, " ", func(i int) string { return "int v" + strconv.Itoa(i) + "[1024];" })
	}
	if c := wantRight(t, some(16)+lastMain); c.Size != api.MaxGlobal {
		t.Errorf("16 arrays: %d bytes", c.Size)
	}
	wantAllRight(t, some(15)+" int a[1023]; char b;"+lastMain, "struct s { "+some(16)+" }; struct s v;"+lastMain)
	wantLimit(t, "@"+some(16)+" char c;"+lastMain, "@"+some(17)+lastMain, "@"+some(15)+" int a[1023]; char b; char c;"+lastMain, "@struct s { "+some(17)+" }; struct s v;"+lastMain, "@struct s { "+some(32)+" }; struct s v, w;"+lastMain)
	// Strings count, too; and it is told in the very end.
	wantAllRight(t, some(15)+" int a[1022]; void f(char a[]) { } int main() { f(\"abc\"); f(\"\"); return 0; }", "struct s { "+some(32)+" }; uint z = sizeof(struct s);"+lastMain)
	wantLimit(t, "@"+some(15)+" int a[1022]; void f(char a[]) { } int main() { f(\"abc\"); f(\"defg\"); return 0; }", "@"+some(16)+" void f(char a[]) { } int main() { f(\"\"); return 0; }")
	wantWrong(t, some(17)+" int main() { return @y; }", "@"+some(17), some(17)+" @int main() { }")
	if _, d, ok := Source(some(17) + " int main() { int a[1025]; return 0; }"); ok || d.Kind != api.DiagLimit || d.At == 0 {
		t.Errorf("the array's length: %+v, %v", d, ok)
	}
}

func TestHowManyBytesOfFrames(t *testing.T) {
	some := func(n int) string {
		return each(n, " ", func(i int) string { return "int v" + strconv.Itoa(i) + "[1024];" })
	}
	wantAllRight(t, "void f() { "+some(16)+" }"+lastMain, "void f(int a[], char b[]) { "+some(16)+" }"+lastMain, "void f(char a) { "+some(15)+" int w[1023]; }"+lastMain, "struct s { "+some(16)+" }; void f(struct s *p) { struct s v; }"+lastMain, "void f() { { "+some(8)+" } { "+some(8)+" } }"+lastMain, "void f() { "+some(16)+" } void g() { "+some(16)+" }"+lastMain, "void f() { "+some(15)+" int w[1021]; char a[5]; char b; }"+lastMain)
	wantLimit(t, "@void f() { "+some(16)+" char c; }"+lastMain, "@void f(char c) { "+some(16)+" }"+lastMain, "@void f() { { "+some(8)+" } { "+some(8)+" char c; } }"+lastMain, "@void f() { "+some(15)+" int w[1022]; char a[5]; char b; }"+lastMain, "struct s { "+some(17)+" }; @void f() { struct s v; }"+lastMain, "struct c { char a; }; @void f(int a) { "+some(15)+" int w[1023]; struct c b; }"+lastMain, "int main() { return 0; } @void f() { "+some(17)+" } void g() { y; }")
	wantAllRight(t, "struct c { char a; }; void f(int a) { "+some(15)+" int w[1022]; struct c b; }"+lastMain)
	// Behind all else of its body, also whether it ends.
	wantWrong(t, "int f() { "+some(17)+" @y; }"+lastMain, "@int f() { "+some(17)+" }"+lastMain, "void f() { @y; } void g() { "+some(17)+" }"+lastMain)
	wantLimit(t, "@int f() { "+some(17)+" return 1; } int g() { }"+lastMain)
}

// Ck2: what the layers below refuse.
func TestSource(t *testing.T) {
	wantDiag(t, api.DiagLex, "int x = @'a")
	wantDiag(t, api.DiagLex, "int main() { return @08; }")
	wantDiag(t, api.DiagLex, "int a; int a; /* */ @/* ")
	wantDiag(t, api.DiagLex, "int main( @$")
	wantDiag(t, api.DiagSyntax, "int f()@;")
	wantDiag(t, api.DiagSyntax, "int main() { return 1 @}")
	wantDiag(t, api.DiagSyntax, "int a; int a; @}")
	wantDiag(t, api.DiagSyntax, "int main() { return 0; @")
	wantDiag(t, api.DiagSyntax, "int main() { 1 @= 2; return 0; }")
	wantDiag(t, api.DiagType, "@")
	wantDiag(t, api.DiagType, "@  /* nothing */ // at all")
	full := lastMain + strings.Repeat(" ", api.MaxSource-len(lastMain))
	wantRight(t, full)
	wantRefused(t, full+" ", api.Diag{Kind: api.DiagLimit})
	wantRefused(t, strings.Repeat("$", api.MaxSource+1), api.Diag{Kind: api.DiagLimit})
	// A program, its function, block, statement and expression: so deep signs may be.
	deep := func(n int) string {
		return "int main() { return " + strings.Repeat("-(", n) + "1" + strings.Repeat(")", n) + "; }"
	}
	wantRight(t, deep(195))
	wantRefused(t, deep(196), api.Diag{Kind: api.DiagLimit})
	wantRefused(t, strings.Replace(deep(196), "1", "y", 1), api.Diag{Kind: api.DiagLimit})
	wantRefused(t, strings.Replace(deep(195), "1", "y", 1), api.Diag{Kind: api.DiagType, At: 20 + 2*195})
	wantRight(t, "int main() { return "+strings.Repeat("(", 9000)+"1"+strings.Repeat(")", 9000)+"; }")
}

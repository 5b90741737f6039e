package parser

import (
	"reflect"
	"strconv"
	"strings"
	"testing"

	"crucible/api"
	"crucible/ast"
)

// kinds has the kinds' names as trees are shown.
func kinds() map[int]string {
	return map[int]string{
		api.NodeNumber: "number", api.NodeChar: "char", api.NodeString: "string", api.NodeName: "name", api.NodeIndex: "index", api.NodeField: "field", api.NodeArrow: "arrow", api.NodeCall: "call",
		api.NodeUnary: "unary", api.NodeBinary: "binary", api.NodeLogical: "logical", api.NodeCond: "cond", api.NodeAssign: "assign", api.NodeCast: "cast", api.NodeSizeof: "sizeof", api.NodeType: "type",
		api.NodeProgram: "program", api.NodeStruct: "struct", api.NodeVars: "vars", api.NodeVar: "var", api.NodeList: "list", api.NodeFunc: "func", api.NodeParam: "param", api.NodeBlock: "block",
		api.NodeEval: "eval", api.NodeIf: "if", api.NodeWhile: "while", api.NodeDo: "do", api.NodeFor: "for", api.NodeBreak: "break", api.NodeContinue: "continue", api.NodeReturn: "return", api.NodeNone: "none",
	}
}

// shown is a tree as a text: kind, 'Str, #Num, ! if Flag, @Pos, and the kids between parentheses.
func shown(n api.Node) string {
	var out strings.Builder
	show(&out, kinds(), &n)
	return out.String()
}

func show(out *strings.Builder, names map[int]string, n *api.Node) {
	out.WriteString(names[n.Kind])
	if n.Str != "" {
		out.WriteString("'" + n.Str)
	}
	if n.Num != 0 {
		out.WriteString("#" + strconv.FormatUint(uint64(n.Num), 10))
	}
	if n.Flag {
		out.WriteString("!")
	}
	out.WriteString("@" + strconv.Itoa(n.Pos))
	if len(n.Kids) == 0 {
		return
	}
	out.WriteString("(")
	for i := range n.Kids {
		if i > 0 {
			out.WriteString(" ")
		}
		show(out, names, &n.Kids[i])
	}
	out.WriteString(")")
}

type reading struct{ src, tree string }

// reads holds what is told of a source against a tree that is shown.
func reads(t *testing.T, read func(string) (api.Node, int, api.Errno), k reading) {
	t.Helper()
	n, p, e := read(k.src)
	if e != api.OK || p != 0 {
		t.Errorf("%q: %d at %d", k.src, e, p)
		return
	}
	if s := shown(n); s != k.tree {
		t.Errorf("%q:\n got %s\nwant %s", k.src, s, k.tree)
	}
}

// refuses holds an error and its place.
func refuses(t *testing.T, read func(string) (api.Node, int, api.Errno), src string, err api.Errno, place int) {
	t.Helper()
	n, p, e := read(src)
	if e != err || p != place || !reflect.DeepEqual(n, api.Node{}) {
		t.Errorf("%.200q: %d at %d, not %d at %d; %v", src, e, p, err, place, n.Kind)
	}
}

func TestPrograms(t *testing.T) {
	for _, k := range []reading{
		{"", "program@0"},
		{"  /* ; */ // x", "program@0"},
		{"struct s{};", "program@0(struct's@0)"},
		{" struct s { int a; };", "program@0(struct's@1(vars@12(type'int@12 var'a@16)))"},
		{"struct s{uint a,b[2],c[];struct s d;};", "program@0(struct's@0(vars@9(type'uint@9 var'a@14 var'b!@16(number#2@18) var'c!@21(none@23)) vars@25(type'struct s@25 var'd@34)))"},
		{"int x;", "program@0(vars@0(type'int@0 var'x@4))"},
		{"void x=1;", "program@0(vars@0(type'void@0 var'x@5(number#1@7)))"},
		{"int x[];", "program@0(vars@0(type'int@0 var'x!@4(none@6)))"},
		{"int x[1]=2;", "program@0(vars@0(type'int@0 var'x!@4(number#1@6 number#2@9)))"},
		{"char x[]={1};", "program@0(vars@0(type'char@0 var'x!@5(none@7 list@9(number#1@10))))"},
		{"int a[2] = {1, 2}, b = 3;", "program@0(vars@0(type'int@0 var'a!@4(number#2@6 list@11(number#1@12 number#2@15)) var'b@19(number#3@23)))"},
		{"struct s x,y[2]={a=1,(b)},z=c=d;", "program@0(vars@0(type'struct s@0 var'x@9 var'y!@11(number#2@13 list@16(assign'=@17(name'a@17 number#1@19) name'b@22)) var'z@26(assign'=@28(name'c@28 name'd@30))))"},
		{"int f(){}", "program@0(func'f@0(type'int@0 block@7))"},
		{"struct s f(int a){;}", "program@0(func'f@0(type'struct s@0 param'a@11(type'int@11) block@17(none@18)))"},
		{"uint f(int a,char b[],struct s*c,void*d){int x;x;}", "program@0(func'f@0(type'uint@0 param'a@7(type'int@7) param'b!@13(type'char@13) param'c#1@22(type'struct s@22) param'd#1@33(type'void@33) block@40(vars@41(type'int@41 var'x@45) eval@47(name'x@47))))"},
		{"int main() { return 1 + 2 * 3; }", "program@0(func'main@0(type'int@0 block@11(return@13(binary'+@20(number#1@20 binary'*@24(number#2@24 number#3@28))))))"},
		{"int x;int y;struct s{};int f(){}int z;", "program@0(vars@0(type'int@0 var'x@4) vars@6(type'int@6 var'y@10) struct's@12 func'f@23(type'int@23 block@30) vars@32(type'int@32 var'z@36))"},
		{"\r\n\tint/* */x // y\n;", "program@0(vars@3(type'int@3 var'x@11))"},
	} {
		reads(t, Parse, k)
	}
}

func TestStatements(t *testing.T) {
	for _, k := range []reading{
		{"{}", "block@8"},
		{"{;int a;{a;}}", "block@8(none@9 vars@10(type'int@10 var'a@14) block@16(eval@17(name'a@17)))"},
		{";", "none@8"},
		{"a;", "eval@8(name'a@8)"},
		{"(a);", "eval@8(name'a@9)"},
		{"((a)+b);", "eval@8(binary'+@9(name'a@10 name'b@13))"},
		{"if(a);", "if@8(name'a@11 none@13)"},
		{"if((a))b;else{}", "if@8(name'a@12 eval@15(name'b@15) block@21)"},
		{"if(a)if(b);else;", "if@8(name'a@11 if@13(name'b@16 none@18 none@23))"},
		{"if(a)if(b);else;else;", "if@8(name'a@11 if@13(name'b@16 none@18 none@23) none@28)"},
		{"if(a){if(b);}else;", "if@8(name'a@11 block@13(if@14(name'b@17 none@19)) none@25)"},
		{"if(a)do if(b);while(c);else;", "if@8(name'a@11 do@13(if@16(name'b@19 none@21) name'c@28) none@35)"},
		{"if(a)while(b)for(;;)if(c);else;", "if@8(name'a@11 while@13(name'b@19 for@21(none@25 none@26 none@27 if@28(name'c@31 none@33 none@38))))"},
		{"if(a)if(b)if(c);else;else;", "if@8(name'a@11 if@13(name'b@16 if@18(name'c@21 none@23 none@28) none@33))"},
		{"if(a);else if(b);else if(c);", "if@8(name'a@11 none@13 if@19(name'b@22 none@24 if@30(name'c@33 none@35)))"},
		{"while(a=b);", "while@8(assign'=@14(name'a@14 name'b@16) none@18)"},
		{"do;while(a);", "do@8(none@10 name'a@17)"},
		{"do do;while(a);while(b);", "do@8(do@11(none@13 name'a@20) name'b@29)"},
		{"do while(a);while(b);", "do@8(while@11(name'a@17 none@19) name'b@26)"},
		{"for(;;);", "for@8(none@12 none@13 none@14 none@15)"},
		{"for ( ; ; ) ;", "for@8(none@14 none@16 none@18 none@20)"},
		{"for(a;b;c)d;", "for@8(name'a@12 name'b@14 name'c@16 eval@18(name'd@18))"},
		{"for(;b;);", "for@8(none@12 name'b@13 none@15 none@16)"},
		{"for(i=0;;i+=1){}", "for@8(assign'=@12(name'i@12 number@14) none@16 assign'+=@17(name'i@17 number#1@20) block@22)"},
		{"break;", "break@8"},
		{"continue ;", "continue@8"},
		{"return;", "return@8"},
		{"return(a)=1;", "return@8(assign'=@14(name'a@15 number#1@18))"},
		{"int a=1,b[2]={3};", "vars@8(type'int@8 var'a@12(number#1@14) var'b!@16(number#2@18 list@21(number#3@22)))"},
		{"struct s t;", "vars@8(type'struct s@8 var't@17)"},
	} {
		reads(t, Parse, reading{"int f(){" + k.src + "}", "program@0(func'f@0(type'int@0 block@7(" + k.tree + ")))"})
	}
}

func TestExpressions(t *testing.T) {
	for _, k := range []reading{
		{"0", "number@0"},
		{"4294967295", "number#4294967295!@0"},
		{"1u", "number#1!@0"},
		{" 0x7fffffff", "number#2147483647@1"},
		{`'\xff'`, "char#255@0"},
		{`'\0'`, "char@0"},
		{`""`, "string@0"},
		{`"a;)"`, "string'a;)@0"},
		{`f(")")`, "call'f@0(string')@2)"},
		{"a", "name'a@0"},
		{"( ( a ) )", "name'a@4"},
		{"f()", "call'f@0"},
		{"f(a)", "call'f@0(name'a@2)"},
		{"f(a,(b),c=d)", "call'f@0(name'a@2 name'b@5 assign'=@8(name'c@8 name'd@10))"},
		{"getbyte()", "call'getbyte@0"},
		{"putbyte(1,2)", "call'putbyte@0(number#1@8 number#2@10)"},
		{"getbyte(a)[b]", "index@0(call'getbyte@0(name'a@8) name'b@11)"},
		{"a[b=c]", "index@0(name'a@0 assign'=@2(name'b@2 name'c@4))"},
		{"a.b", "field'b@0(name'a@0)"},
		{"a->b", "arrow'b@0(name'a@0)"},
		{"a[1].b->c[2]", "index@0(arrow'c@0(field'b@0(index@0(name'a@0 number#1@2))) number#2@10)"},
		{"((a)[b]).c", "field'c@0(index@1(name'a@2 name'b@5))"},
		{`"ab"[1]`, `index@0(string'ab@0 number#1@5)`},
		{"1.a", "field'a@0(number#1@0)"},
		{"-~!&a", "unary'-@0(unary'~@1(unary'!@2(unary'&@3(name'a@4))))"},
		{"--a", "unary'-@0(unary'-@1(name'a@2))"},
		{"-(a)[1]", "unary'-@0(index@1(name'a@2 number#1@5))"},
		{"(int)a", "cast@0(type'int@1 name'a@5)"},
		{"(struct s)-a.b", "cast@0(type'struct s@1 unary'-@10(field'b@11(name'a@11)))"},
		{"(int)(char)x", "cast@0(type'int@1 cast@5(type'char@6 name'x@11))"},
		{"(void)(a)+b", "binary'+@0(cast@0(type'void@1 name'a@7) name'b@10)"},
		{"sizeof(int)", "sizeof@0(type'int@7)"},
		{"sizeof ( struct s )", "sizeof@0(type'struct s@9)"},
		{"sizeof a", "sizeof@0(name'a@7)"},
		{"sizeof(a)", "sizeof@0(name'a@7)"},
		{"sizeof(a)[1]", "sizeof@0(index@6(name'a@7 number#1@10))"},
		{"sizeof(a)+1", "binary'+@0(sizeof@0(name'a@7) number#1@10)"},
		{"sizeof((int)a)", "sizeof@0(cast@7(type'int@8 name'a@12))"},
		{"sizeof((int)a)[1]", "sizeof@0(index@6(cast@7(type'int@8 name'a@12) number#1@15))"},
		{"sizeof-a", "sizeof@0(unary'-@6(name'a@7))"},
		{"sizeof sizeof(int)", "sizeof@0(sizeof@7(type'int@14))"},
		{"sizeof sizeof a", "sizeof@0(sizeof@7(name'a@14))"},
		{"sizeof(int)-a", "binary'-@0(sizeof@0(type'int@7) name'a@12)"},
		{"sizeof(int)&a", "binary'&@0(sizeof@0(type'int@7) name'a@12)"},
		{"sizeof(int)*a", "binary'*@0(sizeof@0(type'int@7) name'a@12)"},
		{"(int)sizeof(char)", "cast@0(type'int@1 sizeof@5(type'char@12))"},
		{"a-b-c", "binary'-@0(binary'-@0(name'a@0 name'b@2) name'c@4)"},
		{"a-(b-c)", "binary'-@0(name'a@0 binary'-@3(name'b@3 name'c@5))"},
		{"(a-b)*c", "binary'*@0(binary'-@1(name'a@1 name'b@3) name'c@6)"},
		{"((a)-b)*c", "binary'*@0(binary'-@1(name'a@2 name'b@5) name'c@8)"},
		{"a||b&&c|d^e&f==g<h<<i+j*k", "logical'||@0(name'a@0 logical'&&@3(name'b@3 binary'|@6(name'c@6 binary'^@8(name'd@8 binary'&@10(name'e@10 binary'==@12(name'f@12 binary'<@15(name'g@15 binary'<<@17(name'h@17 binary'+@20(name'i@20 binary'*@22(name'j@22 name'k@24))))))))))"},
		{"a*b+c>>d>=e!=f&g^h|i&&j||k", "logical'||@0(logical'&&@0(binary'|@0(binary'^@0(binary'&@0(binary'!=@0(binary'>=@0(binary'>>@0(binary'+@0(binary'*@0(name'a@0 name'b@2) name'c@4) name'd@7) name'e@10) name'f@13) name'g@15) name'h@17) name'i@19) name'j@22) name'k@25)"},
		{"a*b+c*d", "binary'+@0(binary'*@0(name'a@0 name'b@2) binary'*@4(name'c@4 name'd@6))"},
		{"a&&&b", "logical'&&@0(name'a@0 unary'&@3(name'b@4))"},
		{"a& &b", "binary'&@0(name'a@0 unary'&@3(name'b@4))"},
		{"a?b:c", "cond@0(name'a@0 name'b@2 name'c@4)"},
		{"(a)?(b):(c)", "cond@0(name'a@1 name'b@5 name'c@9)"},
		{"a?b:c?d:e", "cond@0(name'a@0 name'b@2 cond@4(name'c@4 name'd@6 name'e@8))"},
		{"a?b?c:d:e", "cond@0(name'a@0 cond@2(name'b@2 name'c@4 name'd@6) name'e@8)"},
		{"(a?b:c)?d:e", "cond@0(cond@1(name'a@1 name'b@3 name'c@5) name'd@8 name'e@10)"},
		{"a?b=c:d", "cond@0(name'a@0 assign'=@2(name'b@2 name'c@4) name'd@6)"},
		{"a||b?c:d||e", "cond@0(logical'||@0(name'a@0 name'b@3) name'c@5 logical'||@7(name'd@7 name'e@10))"},
		{"a = b ? c : d", "assign'=@0(name'a@0 cond@4(name'b@4 name'c@8 name'd@12))"},
		{"a=b=c", "assign'=@0(name'a@0 assign'=@2(name'b@2 name'c@4))"},
		{"((a))=b", "assign'=@0(name'a@2 name'b@6)"},
		{"a+(b=c)", "binary'+@0(name'a@0 assign'=@3(name'b@3 name'c@5))"},
		{"(a=b).c=d", "assign'=@0(field'c@0(assign'=@1(name'a@1 name'b@3)) name'd@8)"},
		{"f()[1]=2", "assign'=@0(index@0(call'f@0 number#1@4) number#2@7)"},
		{"a->b-=-c", "assign'-=@0(arrow'b@0(name'a@0) unary'-@6(name'c@7))"},
	} {
		reads(t, Expression, k)
	}
}

// TestAssigns has each ASSIGN behind each kind of place, within parentheses too, and behind each other kind of expression.
func TestAssigns(t *testing.T) {
	for _, sign := range []string{"=", "+=", "-=", "*=", "/=", "%=", "&=", "|=", "^=", "<<=", ">>="} {
		for _, place := range []string{"a", "a[1]", "a.b", "a->b", "f()[1]", "(a+b).c", "(-a)->b"} {
			for _, s := range []string{place, "(" + place + ")", "(( " + place + " ))"} {
				n, p, e := Expression(s + sign + "c")
				if e != api.OK || p != 0 || n.Kind != api.NodeAssign || n.Str != sign || n.Pos != 0 || len(n.Kids) != 2 {
					t.Fatalf("%s: %d at %d, %v", s+sign+"c", e, p, n)
				}
				k, _, _ := Expression(place)
				if !ast.Same(n.Kids[0], k) || n.Kids[1].Pos != len(s+sign) || shown(n.Kids[1]) != "name'c@"+strconv.Itoa(len(s+sign)) {
					t.Errorf("%s: %s", s+sign+"c", shown(n))
				}
			}
		}
		for _, other := range []string{"1", "'a'", `"a"`, "f()", "-a", "&a", "a+b", "a&&b", "a?b:c", "(a=b)", "(int)a", "sizeof a", "sizeof(int)", "a+b[1]", "-a.b", "a||(b)", "a?b:(c)", "getbyte()", "a=1", "a=b+c", "a=-b"} {
			for _, s := range []string{other, "(" + other + ")", "(( " + other + " ))"} {
				refuses(t, Expression, s+sign+"c", api.ErrSyntax, len(s))
				refuses(t, Expression, "a = f(b, "+s+sign+")", api.ErrSyntax, 9+len(s))
				refuses(t, Parse, "int x[] = {1, "+s+sign+"c};", api.ErrSyntax, 14+len(s))
				refuses(t, Parse, "int f() { do if (a) "+s+sign+"", api.ErrSyntax, 20+len(s))
			}
		}
	}
}

// TestExamples has the chapter's examples, and the document's.
func TestExamples(t *testing.T) {
	for _, src := range []string{
		"int main() { return 1 + 2 * 3; }",
		"int f() { if (a) if (b) ; else ; }",
		"int a[2] = {1, 2}, b = 3;",
		"int main() { putbyte('A'); return 3; }",
		"int main() { int c = getbyte(); while (c != -1) { putbyte(c + 1); c = getbyte(); } return 0; }",
		"int a[3]; int main() { return a[3]; }",
		"int main() { while (1) ; return 0; }",
		"int f(int n) { int t[8]; t[n & 7] = n; return f(n + 1) + t[n & 7]; } int main() { return f(0); }",
		"int main() { return -7 / 2 * 10 + -7 % 2; }",
	} {
		n, p, e := Parse(src)
		if e != api.OK || p != 0 || ast.Check(n) != api.OK {
			t.Errorf("%s: %d at %d", src, e, p)
		}
	}
	refuses(t, Expression, "a + b = c", api.ErrSyntax, 6)
	refuses(t, Parse, "int main() { return 1 }", api.ErrSyntax, 22)
	refuses(t, Parse, "int main() { return 08; }", api.ErrLex, 20)
}

// TestWrong has what can't stand there, and at the same time what can't be read.
func TestWrong(t *testing.T) {
	for _, k := range []struct {
		src   string
		place int
	}{
		{";", 0}, {"x", 0}, {"1;", 0}, {"{}", 0}, {"f() {}", 0}, {"int", 3}, {"int ", 4}, {"int x", 5}, {"int x /* */ ", 12}, {"int x y;", 6}, {"int 1;", 4}, {"int int;", 4}, {"int getbyte;", 4}, {"int *p;", 4},
		{"int x,;", 6}, {"int x;;", 6}, {"int x=;", 6}, {"int x={1};", 6}, {"int x[1]={};", 10}, {"int x[1]={1,};", 12}, {"int x[1]={{1}};", 10}, {"int x[1][2];", 8}, {"int x+=1;", 5}, {"int x[1]==2;", 8}, {"int x[1;", 7}, {"int x=1=2;", 7},
		{"int x = (y), z = {", 17}, {"int x[2], z = {", 14},
		{"struct", 6}, {"struct {", 7}, {"struct int {", 7}, {"struct s", 8}, {"struct s;", 8}, {"struct s {", 10}, {"struct s { int a }", 17}, {"struct s { int a; }", 19}, {"struct s { int a; } x;", 20}, {"struct s { int a = 1; };", 17}, {"struct s { int a[1] = {", 20},
		{"struct s { ; };", 11}, {"struct s { a; };", 11}, {"struct s { int f(); };", 16}, {"struct s { struct t { } a; };", 20}, {"struct s {}; }", 13}, {"struct s (", 9},
		{"int f(", 6}, {"int f(void){}", 10}, {"int f(int){}", 9}, {"int f(int a,){}", 12}, {"int f(a){}", 6}, {"int f(int a[1]){}", 12}, {"int f(int a[)", 12}, {"int f(int *a[]){}", 12}, {"int f(int **a){}", 11}, {"int f(int a=1){}", 11}, {"int f(int a;){}", 11}, {"int f(,", 6}, {"int f();", 7}, {"int f() int", 8}, {"int f(){};", 9}, {"int f(){}}", 9}, {"int f(){", 8}, {"int f,g(){}", 7}, {"int f[1](){}", 8}, {"int f=1(", 7}, {"struct s f(){", 13}, {"struct s f(int", 14},
		{"int f(){int g(){}}", 13}, {"int f(){struct s{};}", 16}, {"int f(){if(a)int b;}", 13}, {"int f(){for(int i;;);}", 12}, {"int f(){else;}", 8}, {"int f(){if(a);else;else;}", 19}, {"int f(){if(a){};else;}", 16}, {"int f(){if a;}", 11}, {"int f(){if();}", 11}, {"int f(){if(a;}", 12}, {"int f(){while(a)}", 16}, {"int f(){while();}", 14}, {"int f(){do;}", 11}, {"int f(){do;while(a)}", 19}, {"int f(){do{}while a;}", 18}, {"int f(){do a while(a);}", 13},
		{"int f(){for(;);}", 13}, {"int f(){for(;;;);}", 14}, {"int f(){for();}", 12}, {"int f(){for(a,b;;);}", 13}, {"int f(){for(];;);}", 12}, {"int f(){for(;;]);}", 14}, {"int f(){break}", 13}, {"int f(){break 1;}", 14}, {"int f(){continue}", 16}, {"int f(){return 1}", 16}, {"int f(){return int;}", 15}, {"int f(){return}", 14}, {"int f(){a}", 9}, {"int f(){a b;}", 10}, {"int f(){a,b;}", 9}, {"int f(){case 1:;}", 13}, {"int f(){a:;}", 9}, {"int f(){){", 8}, {"int f(){)", 8}, {"int f(){int a[);}", 14}, {"int f(){int a[;}", 14},
	} {
		refuses(t, Parse, k.src, api.ErrSyntax, k.place)
		refuses(t, Parse, " \n"+k.src, api.ErrSyntax, 2+k.place)
		if k.place < len(k.src) {
			refuses(t, Parse, k.src+" 'ab' 09 /*", api.ErrLex, len(k.src)+1)
			refuses(t, Parse, "08 "+k.src, api.ErrLex, 0)
			refuses(t, Parse, k.src+"}", api.ErrSyntax, k.place)
		}
	}
	for _, k := range []struct {
		src   string
		place int
	}{
		{"", 0}, {"   ", 3}, {"// a\n", 5}, {";", 0}, {"a;", 1}, {"a b", 2}, {"1 2", 2}, {`"a" "b"`, 4}, {"a 'b'", 2}, {"()", 1}, {"(a", 2}, {"(a;", 2}, {"a)", 1}, {"(a))", 3}, {"(a,b)", 2}, {"a,b", 1}, {"a+", 2}, {"+a", 0}, {"*a", 0}, {"a+*b", 2}, {"a++b", 2}, {"a**b", 2}, {"a-", 2}, {"-", 1}, {"a!b", 1}, {"a~b", 1}, {"!", 1},
		{"a?b", 3}, {"a?:b", 2}, {"a?b:", 4}, {"a:b", 1}, {"a?b,c:d", 3}, {"a?b:c:d", 5}, {"a=", 2}, {"=a", 0}, {"a==", 3}, {"a[", 2}, {"a[]", 2}, {"a[1", 3}, {"a[1)", 3}, {"a[1,2]", 3}, {"a]", 1}, {"a.", 2}, {"a.1", 2}, {"a.int", 2}, {"a.(b)", 2}, {"a->", 3}, {"a->getbyte", 3}, {"a.b(", 3}, {"a[1](", 4},
		{"f(", 2}, {"f(,)", 2}, {"f(a,)", 4}, {"f(a", 3}, {"f(a b)", 4}, {"f(a;)", 3}, {"f()()", 3}, {"(f)()", 3}, {"1()", 1}, {"getbyte", 7}, {"getbyte+1", 7}, {"getbyte[1]", 7}, {"putbyte=1", 7}, {"(getbyte)()", 8}, {"f(int)", 2}, {"f(int a)", 2},
		{"int", 0}, {"(int", 4}, {"(int)", 5}, {"(int a)", 5}, {"(int)*a", 5}, {"(int)+a", 5}, {"(int[])a", 4}, {"(int*)a", 4}, {"(struct)a", 7}, {"(struct s", 9}, {"(struct s t)", 10}, {"(int)int", 5}, {"(int)=a", 5}, {"((int))", 6}, {"sizeof", 6}, {"sizeof int", 7}, {"sizeof()", 7}, {"sizeof(int", 10}, {"sizeof(int[1])", 10}, {"sizeof(int)a", 11}, {"sizeof(int)(a)", 11}, {"sizeof(int)(char)a", 11}, {"sizeof(int)[1]", 11}, {"sizeof(int).a", 11}, {"sizeof(int)!a", 11}, {"sizeof(int)sizeof a", 11}, {"sizeof(int)1", 11}, {"sizeof+a", 6}, {"sizeof*a", 6},
		{"if", 0}, {"return a", 0}, {"{a}", 0}, {"a{", 1}, {"a}", 1}, {"else", 0}, {"while(a)", 0}, {"a?", 2}, {"a||", 3}, {"a|||b", 3}, {"a&&", 3}, {"a&&||b", 3}, {"a<", 2}, {"a<>b", 2}, {"a<<<b", 3}, {"a<<<<b", 3}, {"a<=>b", 3}, {"a====b", 3}, {"a=!=b", 2}, {"a= =b", 3}, {"a- >b", 3}, {"a. b c", 5},
	} {
		refuses(t, Expression, k.src, api.ErrSyntax, k.place)
		refuses(t, Expression, "\t"+k.src, api.ErrSyntax, 1+k.place)
		if k.place < len(k.src) {
			refuses(t, Expression, k.src+" \x80", api.ErrLex, len(k.src)+1)
		}
	}
}

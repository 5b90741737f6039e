package check

import (
	"testing"

	"crucible/api"
)

// Ck1: which term each node becomes, row by row of the table. (v0 to v2: int, uint, char; v3, v4: arrays that were handed on; v5, v6: a struct that was, and one; v7: chars.)
func TestNumbers(t *testing.T) {
	wantValues(t,
		"0", "(const:int 0)", "7", "(const:int 7)", "2147483647", "(const:int 2147483647)", "2147483648", "(const:uint -2147483648)",
		"4294967295", "(const:uint -1)", "7u", "(const:uint 7)", "0u", "(const:uint 0)", "0x10", "(const:int 16)", "0xFFFFFFFFu", "(const:uint -1)",
		"'a'", "(const:int 97)", "'\\0'", "(const:int 0)", "'\\xff'", "(const:int 255)",
	)
}

func TestPlaces(t *testing.T) {
	wantValues(t,
		"i", "(place:int g0 of=int)", "u", "(place:uint g1 of=uint)", "c", "(place:char g2 of=char)",
		"vi", "(place:int v0 of=int)", "vu", "(place:uint v1 of=uint)", "vc", "(place:char v2 of=char)",
		"t.a", "(place:char g6 of=char)", "t.b", "(place:int g6 +4 of=int)", "vs.b", "(place:int v6 +4 of=int)", "rs->b", "(place:int v5 +4 of=int)", "rs->a", "(place:char v5 of=char)",
		"ia[0]", "(place:int g3 len=5 of=int (const:int 0))", "ua[vu]", "(place:uint g4 len=6 of=uint (place:uint v1 of=uint))", "ca[vc]", "(place:char g5 len=7 of=char (place:char v2 of=char))",
		"va[8]", "(place:char v7 len=9 of=char (const:int 8))", "ra[-1]", "(place:int v3 len=-1 of=int (alu:int sub (const:int 0) (const:int 1)))", "rc[i]", "(place:char v4 len=-1 of=char (place:int g0 of=int))",
		"t.c[1]", "(place:char g6 +8 len=3 of=char (const:int 1))", "vs.d[0]", "(place:uint v6 +12 len=2 of=uint (const:int 0))", "rs->d[c]", "(place:uint v5 +12 len=2 of=uint (place:char g2 of=char))",
		"ia[ca[ra[2]]]", "(place:int g3 len=5 of=int (place:char g5 len=7 of=char (place:int v3 len=-1 of=int (const:int 2))))",
		"((t)).b", "(place:int g6 +4 of=int)", "(rs)->b", "(place:int v5 +4 of=int)", "(ia)[(1)]", "(place:int g3 len=5 of=int (const:int 1))", "(t.c)[0]", "(place:char g6 +8 len=3 of=char (const:int 0))",
	)
}

func TestUnary(t *testing.T) {
	wantValues(t,
		"-vi", "(alu:int sub (const:int 0) (place:int v0 of=int))", "-vu", "(alu:uint sub (const:uint 0) (place:uint v1 of=uint))", "-vc", "(alu:int sub (const:int 0) (conv:int (place:char v2 of=char)))",
		"~vi", "(alu:int xor (place:int v0 of=int) (const:int -1))", "~vu", "(alu:uint xor (place:uint v1 of=uint) (const:uint -1))", "~vc", "(alu:int xor (conv:int (place:char v2 of=char)) (const:int -1))",
		"!vi", "(alu:int eq (place:int v0 of=int) (const:int 0))", "!vu", "(alu:int eq (place:uint v1 of=uint) (const:uint 0))", "!vc", "(alu:int eq (conv:int (place:char v2 of=char)) (const:int 0))",
		"- -1", "(alu:int sub (const:int 0) (alu:int sub (const:int 0) (const:int 1)))", "!!vu", "(alu:int eq (alu:int eq (place:uint v1 of=uint) (const:uint 0)) (const:int 0))",
	)
}

// each binary operator, of each two types: the table's row is written out here anew.
func TestBinary(t *testing.T) {
	terms := map[int]string{api.TypeInt: "(place:int v0 of=int)", api.TypeUint: "(place:uint v1 of=uint)", api.TypeChar: "(place:char v2 of=char)"}
	names := map[int]string{api.TypeInt: "vi", api.TypeUint: "vu", api.TypeChar: "vc"}
	as := func(kind, to int) string {
		if kind == to {
			return terms[kind]
		}
		return "(conv:" + typeNames[to] + " " + terms[kind] + ")"
	}
	alone := func(kind int) int {
		if kind == api.TypeUint {
			return kind
		}
		return api.TypeInt
	}
	for a := api.TypeInt; a <= api.TypeChar; a++ {
		for b := api.TypeInt; b <= api.TypeChar; b++ {
			both := api.TypeInt
			if a == api.TypeUint || b == api.TypeUint {
				both = api.TypeUint
			}
			kids := " " + as(a, both) + " " + as(b, both) + ")"
			one := typeNames[both]
			pick := func(signed, unsigned string) string {
				if both == api.TypeUint {
					return unsigned
				}
				return signed
			}
			for sign, op := range map[string]string{"+": "add", "-": "sub", "*": "mul", "/": pick("div", "divu"), "%": pick("rem", "remu"), "&": "and", "^": "xor", "|": "or"} {
				wantValues(t, names[a]+" "+sign+" "+names[b], "(alu:"+one+" "+op+kids)
			}
			le, lt := pick("le", "leu"), pick("lt", "ltu")
			for sign, op := range map[string]string{"==": "eq", "!=": "ne", "<": lt, "<=": le} {
				wantValues(t, names[a]+sign+names[b], "(alu:int "+op+kids)
			}
			wantValues(t, names[a]+" > "+names[b], "(alu:int eq (alu:int "+le+kids+" (const:int 0))")
			wantValues(t, names[a]+" >= "+names[b], "(alu:int eq (alu:int "+lt+kids+" (const:int 0))")
			first := alone(a)
			shr := "sar"
			if first == api.TypeUint {
				shr = "shr"
			}
			kids = " " + as(a, first) + " " + as(b, alone(b)) + ")"
			wantValues(t, names[a]+" << "+names[b], "(alu:"+typeNames[first]+" shl"+kids)
			wantValues(t, names[a]+" >> "+names[b], "(alu:"+typeNames[first]+" "+shr+kids)
			kids = " " + terms[a] + " " + terms[b] + ")"
			wantValues(t, names[a]+" && "+names[b], "(and:int"+kids, names[a]+" || "+names[b], "(or:int"+kids)
			wantValues(t, names[b]+" ? "+names[a]+" : "+names[b], "(cond:"+one+" "+terms[b]+" "+as(a, both)+" "+as(b, both)+")")
			wantValues(t, "("+typeNames[a]+")"+names[b], as(b, a))
			wantAssigned(t, a, b, names, terms, as)
		}
	}
}

func wantAssigned(t *testing.T, a, b int, names, terms map[int]string, as func(kind, to int) string) {
	t.Helper()
	head := "(assign:" + typeNames[a] + " "
	wantValues(t, names[a]+" = "+names[b], head+terms[a]+" "+as(b, a)+")")
	mid := api.TypeInt
	if a == api.TypeUint || b == api.TypeUint {
		mid = api.TypeUint
	}
	div, rem := "div", "rem"
	if mid == api.TypeUint {
		div, rem = "divu", "remu"
	}
	for sign, op := range map[string]string{"+=": "add", "-=": "sub", "*=": "mul", "/=": div, "%=": rem, "&=": "and", "|=": "or", "^=": "xor"} {
		wantValues(t, names[a]+sign+names[b], head+op+" in="+typeNames[mid]+" "+terms[a]+" "+as(b, mid)+")")
	}
	mid, shr := api.TypeInt, "sar"
	if a == api.TypeUint {
		mid, shr = api.TypeUint, "shr"
	}
	alone := api.TypeInt
	if b == api.TypeUint {
		alone = api.TypeUint
	}
	for sign, op := range map[string]string{"<<=": "shl", ">>=": shr} {
		wantValues(t, names[a]+sign+names[b], head+op+" in="+typeNames[mid]+" "+terms[a]+" "+as(b, alone)+")")
	}
}

func TestAssignToEachPlace(t *testing.T) {
	wantValues(t,
		"t.b = 1", "(assign:int (place:int g6 +4 of=int) (const:int 1))", "rs->a = 300", "(assign:char (place:char v5 of=char) (conv:char (const:int 300)))",
		"vs.d[1] += 2", "(assign:uint add in=uint (place:uint v6 +12 len=2 of=uint (const:int 1)) (conv:uint (const:int 2)))",
		"vi = vu = vc", "(assign:int (place:int v0 of=int) (conv:int (assign:uint (place:uint v1 of=uint) (conv:uint (place:char v2 of=char)))))",
		"ra[vi = 1] = 2", "(assign:int (place:int v3 len=-1 of=int (assign:int (place:int v0 of=int) (const:int 1))) (const:int 2))",
		"(vi) = 3", "(assign:int (place:int v0 of=int) (const:int 3))",
	)
}

func TestSizeof(t *testing.T) {
	for src, size := range map[string]string{
		"sizeof(int)": "4", "sizeof(uint)": "4", "sizeof(char)": "1", "sizeof(struct s)": "20", "sizeof(struct q)": "4",
		"sizeof i": "4", "sizeof c": "1", "sizeof ia": "20", "sizeof ua": "24", "sizeof ca": "7", "sizeof t": "20", "sizeof vs": "20", "sizeof va": "9", "sizeof vc": "1", "sizeof(va)": "9",
		"sizeof t.a": "1", "sizeof t.b": "4", "sizeof t.c": "3", "sizeof t.d": "8", "sizeof rs->c": "3", "sizeof rs->d": "8", "sizeof rs->a": "1",
		"sizeof ia[99]": "4", "sizeof ca[0]": "1", "sizeof rc[0]": "1", "sizeof ra[0]": "4", "sizeof t.c[0]": "1",
		"sizeof 'a'": "4", "sizeof 1u": "4", "sizeof(c + c)": "4", "sizeof -c": "4", "sizeof !c": "4", "sizeof(c = 1)": "1", "sizeof((char)1)": "1", "sizeof(c ? c : c)": "4", "sizeof(1 / 0)": "4",
		"sizeof getbyte()": "4", "sizeof f0(1)": "4", "sizeof f2()": "4", "sizeof f3(ua, \"\", &w)": "1", "sizeof sizeof c": "4", "sizeof(c && c)": "4", "sizeof(c << 1u)": "4",
	} {
		c := wantRight(t, setting+"int f4(int ra[], char rc[], struct s *rs) { struct s vs; char va[9]; char vc; struct q w; "+src+"; return 0; }"+lastMain)
		if len(c.Routines) == 6 {
			if got := spell(c.Routines[4].Body.Kids[4]); got != "(eval (const:uint "+size+"))" {
				t.Errorf("%s: %s, not %s", src, got, size)
			}
		}
	}
}

func TestCalls(t *testing.T) {
	wantValues(t,
		"getbyte()", "(get:int)", "putbyte(vi)", "(put (place:int v0 of=int))", "putbyte(vu)", "(put (place:uint v1 of=uint))", "putbyte(vc)", "(put (conv:int (place:char v2 of=char)))",
		"f0(1)", "(call:int f0 (const:int 1))", "f0(vc)", "(call:int f0 (conv:int (place:char v2 of=char)))", "f0(f0(2u))", "(call:int f0 (call:int f0 (conv:int (const:uint 2))))",
		"f2()", "(call:uint f2)", "main()", "(call:int f5)",
		"f1(vi, ia, &t)", "(call f1 (conv:char (place:int v0 of=int)) (array g3 len=5 of=int) (struct g6))",
		"f1(vc, ra, &vs)", "(call f1 (place:char v2 of=char) (array v3 len=-1 of=int) (struct v6))",
		"f1(vc, ra, rs)", "(call f1 (place:char v2 of=char) (array v3 len=-1 of=int) (struct v5))",
		"f4(1, 2, 3, ia, t.c, rs)", "(call:int f4 (const:int 1) (conv:uint (const:int 2)) (conv:char (const:int 3)) (array g3 len=5 of=int) (array g6 +8 len=3 of=char) (struct v5))",
		"f4(1, 2u, vc, (ra), (rs->c), (&(t)))", "(call:int f4 (const:int 1) (const:uint 2) (place:char v2 of=char) (array v3 len=-1 of=int) (array v5 +8 len=3 of=char) (struct g6))",
		"f4(1, 2u, vc, ra, rc, rs)", "(call:int f4 (const:int 1) (const:uint 2) (place:char v2 of=char) (array v3 len=-1 of=int) (array v4 len=-1 of=char) (struct v5))",
		"f4(1, 2u, vc, ra, va, rs)", "(call:int f4 (const:int 1) (const:uint 2) (place:char v2 of=char) (array v3 len=-1 of=int) (array v7 len=9 of=char) (struct v5))",
		"f4(1, 2u, vc, ra, \"ab\", rs)", "(call:int f4 (const:int 1) (const:uint 2) (place:char v2 of=char) (array v3 len=-1 of=int) (array g7 len=3 of=char) (struct v5))",
	)
	wantTerms(t, "struct q w; f3(vs.d, \"\", &w);", "(decl v8)", "{ struct q w; f3(rs->d, va, &w); }", "(block (decl v8) (eval (call:char f3 (array v5 +12 len=2 of=uint) (array v7 len=9 of=char) (struct v8))))")
}

func TestStatements(t *testing.T) {
	one := "(const:int 1)"
	wantTerms(t,
		";", "(none)", "{ }", "(block)", "{ ; { } }", "(block (none) (block))", "1;", "(eval "+one+")", "putbyte(1);", "(eval (put "+one+"))",
		"if (vc) ;", "(if (place:char v2 of=char) (none))", "if (1) ; else { }", "(if "+one+" (none) (block))",
		"while (vu) break;", "(while (place:uint v1 of=uint) (break))", "do continue; while (vc);", "(do (continue) (place:char v2 of=char))",
		"for (;;) break;", "(for (none) (none) (none) (break))", "for (vi = 1; vc; vi += 1) { continue; }", "(for (assign:int (place:int v0 of=int) (const:int 1)) (place:char v2 of=char) (assign:int add in=int (place:int v0 of=int) (const:int 1)) (block (continue)))",
		"for (putbyte(1); ; f1(1, ia, rs)) ;", "(for (put (const:int 1)) (none) (call f1 (conv:char (const:int 1)) (array g3 len=5 of=int) (struct v5)) (none))",
		"return vc;", "(return (conv:int (place:char v2 of=char)))", "return 1;", "(return (const:int 1))", "return 1u;", "(return (conv:int (const:uint 1)))",
		"while (1) if (1) break; else continue;", "(while (const:int 1) (if (const:int 1) (break) (continue)))", "while (1) { while (1) ; break; }", "(while (const:int 1) (block (while (const:int 1) (none)) (break)))",
	)
}

func TestDeclarations(t *testing.T) {
	wantTerms(t,
		"int x;", "(decl v8)", "char x = 300;", "(decl v8 (conv:char (const:int 300)))", "uint x = vc;", "(decl v8 (conv:uint (place:char v2 of=char)))", "int x = 1 / 0;", "(decl v8 (alu:int div (const:int 1) (const:int 0)))",
		"struct q x;", "(decl v8)", "int x[3];", "(decl v8)", "int x[3] = {1, vc};", "(decl v8 (const:int 1) (conv:int (place:char v2 of=char)))", "char x[] = {1};", "(decl v8 (conv:char (const:int 1)))", "uint x[2] = {1u, f2()};", "(decl v8 (const:uint 1) (call:uint f2))",
		"char x[3] = \"ab\";", "(decl v8 (const:char 97) (const:char 98))", "char x[] = \"\\xff\";", "(decl v8 (const:char 255))", "char x[9] = \"\";", "(decl v8)", "char x[] = \"\";", "(decl v8)",
		"{ int x, y = 2, z[1]; struct s w; }", "(block (decl v8) (decl v9 (const:int 2)) (decl v10) (decl v11))",
		"{ int vi = vi; { int vi = vi; } }", "(block (decl v8 (place:int v0 of=int)) (block (decl v9 (place:int v8 of=int))))",
	)
}

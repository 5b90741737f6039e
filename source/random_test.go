package source

import (
	"math/rand"
	"strconv"
	"strings"
	"testing"

	"crucible/api"
	"crucible/check"
)

// writer writes random sources: nearly all of them programs, with loops that mostly end and indices that mostly fit.
type writer struct {
	*rand.Rand
	strings.Builder
	globals []known
	locals  []known
	funcs   []routine
	result  string
	names   int
	loops   int
	left    int // how many statements the function may still have
}

// known is a variable that may be used: kind is i, u, c (a scalar), I, U, C (an array), s (the struct), r (a reference to it).
type known struct {
	name string
	kind byte
	keep bool // it counts a loop: nothing else is stored there
}

type routine struct {
	name, result, params string // params: a kind each
}

func (w *writer) chance(n int) bool { return w.Intn(n) == 0 }

func (w *writer) oneOf(l ...string) string { return l[w.Intn(len(l))] }

func (w *writer) name(first string) string {
	w.names++
	return first + strconv.Itoa(w.names)
}

var typeOf = map[byte]string{'i': "int", 'u': "uint", 'c': "char", 'I': "int", 'U': "uint", 'C': "char"}

const structText = "struct s { char c; int i; char d[5]; uint u; int a[3]; };\n"

// all are the variables of these kinds, with the struct's members.
func (w *writer) all(kinds string) []string {
	var l []string
	for _, v := range append(append([]known{}, w.globals...), w.locals...) {
		dot := map[byte]string{'s': ".", 'r': "->"}[v.kind]
		switch {
		case strings.IndexByte(kinds, v.kind) >= 0 && !v.keep:
			l = append(l, v.name)
		case dot != "":
			for i, m := range []string{"c", "i", "d", "u", "a"} {
				if strings.IndexByte(kinds, "ciCuI"[i]) >= 0 {
					l = append(l, v.name+dot+m)
				}
			}
		}
	}
	return l
}

func (w *writer) index(deep int) string {
	switch w.Intn(12) {
	case 0:
		return w.expr(deep)
	case 1:
		return w.oneOf("0", "1", "2", "3", "4", "5", "6", "7", "-1")
	}
	return "(" + w.expr(deep) + ") & " + w.oneOf("1", "2", "3", "1u")
}

func (w *writer) place(deep int) string {
	arrays, scalars := w.all("IUC"), w.all("iuc")
	if len(arrays) > 0 && w.chance(2) {
		return w.oneOf(arrays...) + "[" + w.index(deep-1) + "]"
	}
	return w.oneOf(scalars...)
}

func (w *writer) number() string {
	return w.oneOf("0", "1", "2", "3", "7", "31", "32", "255", "256", "1000", "65535", "2147483647", "2147483648u", "4294967295u", "5u", "'a'", "'\\xff'", "sizeof(struct s)")
}

func (w *writer) argument(kind byte, deep int) string {
	switch kind {
	case 'r':
		var l []string
		for _, v := range append(append([]known{}, w.globals...), w.locals...) {
			switch v.kind {
			case 's':
				l = append(l, "&"+v.name)
			case 'r':
				l = append(l, v.name)
			}
		}
		return w.oneOf(l...)
	case 'C':
		if w.chance(3) {
			return w.oneOf(`"abc"`, `""`, `"hello\n"`)
		}
		return w.oneOf(w.all("C")...)
	case 'I', 'U':
		return w.oneOf(w.all(string([]byte{kind}))...)
	}
	return w.expr(deep)
}

func (w *writer) call(deep int) string {
	var l []routine
	for _, f := range w.funcs {
		if f.result != "void" {
			l = append(l, f)
		}
	}
	if len(l) == 0 {
		return "getbyte()"
	}
	return w.callOf(l[w.Intn(len(l))], deep)
}

func (w *writer) callOf(f routine, deep int) string {
	var args []string
	for i := range len(f.params) {
		args = append(args, w.argument(f.params[i], deep-1))
	}
	return f.name + "(" + strings.Join(args, ", ") + ")"
}

func (w *writer) expr(deep int) string {
	if deep <= 0 {
		if w.chance(2) {
			return w.number()
		}
		return w.oneOf(append(w.all("iuc"), w.counters()...)...)
	}
	switch w.Intn(16) {
	case 0, 1, 2:
		return "(" + w.expr(deep-1) + " " + w.oneOf("+", "-", "*", "&", "|", "^", "<<", ">>", "<", ">", "<=", ">=", "==", "!=") + " " + w.expr(deep-1) + ")"
	case 3:
		return "(" + w.expr(deep-1) + w.oneOf(" / ", " % ") + "(" + w.expr(deep-1) + w.oneOf(" | 1", "", " | 3u") + "))"
	case 4:
		return w.oneOf("-", "~", "!", "- -") + "(" + w.expr(deep-1) + ")"
	case 5:
		return "(" + w.expr(deep-1) + w.oneOf(" && ", " || ") + w.expr(deep-1) + ")"
	case 6:
		return "(" + w.expr(deep-1) + " ? " + w.expr(deep-1) + " : " + w.expr(deep-1) + ")"
	case 7, 8:
		return "(" + w.assignment(deep) + ")"
	case 9:
		return "(" + w.oneOf("int", "uint", "char") + ")" + "(" + w.expr(deep-1) + ")"
	case 10:
		return "getbyte()"
	case 11:
		return w.call(deep)
	}
	return w.place(deep)
}

func (w *writer) counters() []string {
	var l []string
	for _, v := range w.locals {
		if v.keep {
			l = append(l, v.name)
		}
	}
	return l
}

func (w *writer) assignment(deep int) string {
	how := w.oneOf("=", "=", "+=", "-=", "*=", "&=", "|=", "^=", "<<=", ">>=", "/=", "%=")
	value := w.expr(deep - 1)
	if (how == "/=" || how == "%=") && !w.chance(4) {
		value = "(" + value + ") | 1"
	}
	return w.place(deep-1) + " " + how + " " + value
}

// declaration is a variable of the function, or of the program.
func (w *writer) declaration(outside bool) {
	kind := "iucIUCs"[w.Intn(7)]
	v := known{name: w.name("v"), kind: kind}
	value := func() string {
		if outside {
			return w.number()
		}
		return w.expr(2)
	}
	text := typeOf[kind] + " " + v.name
	switch kind {
	case 's':
		text = "struct s " + v.name
	case 'I', 'U', 'C':
		text += "[" + w.oneOf("4", "5", "8") + "]"
		if w.chance(2) {
			text += " = {" + value() + w.oneOf("", ", "+value(), ", "+value()+", "+value()) + "}"
		} else if kind == 'C' {
			text += w.oneOf("", ` = "ab"`)
		}
	default:
		if w.chance(2) {
			text += " = " + value()
		}
	}
	w.WriteString(text + ";\n")
	if outside {
		w.globals = append(w.globals, v)
	} else {
		w.locals = append(w.locals, v)
	}
}

func (w *writer) block(deep int) {
	was := len(w.locals)
	w.WriteString("{\n")
	for range 1 + w.Intn(4) {
		if w.chance(3) {
			w.declaration(false)
		} else {
			w.statement(deep - 1)
		}
	}
	w.WriteString("}\n")
	w.locals = w.locals[:was]
}

// body is the statement within a loop or a branch.
func (w *writer) body(deep int) {
	if w.chance(8) {
		w.WriteString(";\n")
	} else {
		w.block(deep)
	}
}

// loop is one with a counter of its own, so that it mostly ends.
func (w *writer) loop(deep int) {
	v := known{name: w.name("n"), kind: 'i', keep: true}
	was := len(w.locals)
	w.WriteString("{ int " + v.name + ";\n")
	w.locals = append(w.locals, v)
	w.loops++
	up, most := v.name+" += 1", v.name+" < "+w.oneOf("2", "3", "5")
	switch w.Intn(4) {
	case 0:
		w.WriteString("do ")
		w.body(deep)
		w.WriteString("while ((" + up + ") < 4 && (" + w.expr(1) + "));\n")
	case 1:
		w.WriteString("for (; ; " + up + ") { if (" + v.name + " > 3) break;\n")
		w.body(deep)
		w.WriteString("}\n")
	case 2:
		w.WriteString("for (" + w.assignment(1) + "; ; ) { if ((" + up + ") > 3) break; else ")
		w.body(deep)
		w.WriteString("}\n")
	default:
		w.WriteString("for (" + w.oneOf("", v.name+" = 0", w.expr(1)) + "; " + most + "; " + up + ")")
		w.body(deep)
	}
	w.loops--
	w.locals = w.locals[:was]
	w.WriteString("}\n")
}

// loopWhile is one whose test counts.
func (w *writer) loopWhile(deep int) {
	v := known{name: w.name("n"), kind: 'i', keep: true}
	was := len(w.locals)
	w.WriteString("{ int " + v.name + " = " + w.oneOf("0", "1", "5") + ";\nwhile ((" + v.name + " -= 1) >= 0" + w.oneOf("", " && "+w.expr(1)) + ")")
	w.locals = append(w.locals, v)
	w.loops++
	w.body(deep)
	w.loops--
	w.locals = w.locals[:was]
	w.WriteString("}\n")
}

func (w *writer) statement(deep int) {
	w.left--
	if deep <= 0 || w.left < 0 {
		w.WriteString(w.assignment(2) + ";\n")
		return
	}
	switch w.Intn(14) {
	case 0, 1:
		w.WriteString("putbyte(" + w.expr(2) + ");\n")
	case 2:
		w.WriteString("if (" + w.expr(2) + ")")
		w.body(deep)
		if w.chance(2) {
			w.WriteString("else ")
			w.body(deep)
		}
	case 3, 4:
		if w.chance(3) {
			w.loopWhile(deep)
		} else {
			w.loop(deep)
		}
	case 5:
		w.block(deep)
	case 6:
		if w.loops > 0 {
			w.WriteString("if (" + w.expr(1) + ") " + w.oneOf("break", "continue") + ";\n")
			return
		}
		w.WriteString(";\n")
	case 7:
		if w.chance(3) {
			w.WriteString("if (" + w.expr(1) + ") " + w.returning() + "\n")
		}
	case 8, 9:
		f := w.funcs[w.Intn(len(w.funcs))]
		w.WriteString(w.callOf(f, 2) + ";\n")
	default:
		w.WriteString(w.oneOf(w.assignment(3), w.assignment(2), w.expr(3)) + ";\n")
	}
}

func (w *writer) returning() string {
	if w.result == "void" {
		return "return;"
	}
	return "return " + w.expr(2) + ";"
}

func (w *writer) function(f routine) {
	w.result, w.locals, w.left = f.result, nil, 14
	var params []string
	for i := range len(f.params) {
		v := known{name: w.name("p"), kind: f.params[i]}
		switch v.kind {
		case 'r':
			params = append(params, "struct s *"+v.name)
		case 'I', 'U', 'C':
			params = append(params, typeOf[v.kind]+" "+v.name+"[]")
		default:
			params = append(params, typeOf[v.kind]+" "+v.name)
		}
		w.locals = append(w.locals, v)
	}
	w.WriteString(f.result + " " + f.name + "(" + strings.Join(params, ", ") + ") {\n")
	for range 1 + w.Intn(5) {
		if w.chance(3) {
			w.declaration(false)
		} else {
			w.statement(3)
		}
	}
	w.WriteString(w.returning() + "\n}\n")
}

// randomSource is a program's text.
func randomSource(seed int64) string {
	w := &writer{Rand: rand.New(rand.NewSource(seed))}
	w.WriteString(structText + "int gi; char gc[6] = \"xyz\"; int gI[4] = {1, -2}; uint gU[5]; struct s gs;\n")
	w.globals = []known{{"gi", 'i', false}, {"gc", 'C', false}, {"gI", 'I', false}, {"gU", 'U', false}, {"gs", 's', false}}
	for range w.Intn(4) {
		w.declaration(true)
	}
	for i := range 1 + w.Intn(4) {
		f := routine{name: "f" + strconv.Itoa(i), result: w.oneOf("int", "uint", "char", "void")}
		for range w.Intn(5) {
			f.params += string("iucIUCr"[w.Intn(7)])
		}
		w.funcs = append(w.funcs, f)
	}
	for _, f := range w.funcs {
		w.function(f)
	}
	w.function(routine{name: "main", result: "int"})
	return w.String()
}

// sameAsModel holds a run against the model's.
func sameAsModel(t *testing.T, src string, p api.Checked, input string, fuel, deep int) (api.End, int) {
	t.Helper()
	e, n, err := Run(p, input, fuel, deep)
	want, most := modelled(p, input, fuel, deep)
	if e != want || n != most || err != api.OK {
		t.Fatalf("%s\ninput %q, fuel %d, deep %d: %+v, %d, %d; not %+v, %d", src, input, fuel, deep, e, n, err, want, most)
	}
	return e, n
}

const someInput = "some input\xff\x00 of a run"

// TestRandomPrograms holds runs of programs against the model's, and counts that all kinds of ends are met.
func TestRandomPrograms(t *testing.T) {
	var ends [4]int
	var refused, nested int
	const tries = 3000
	for seed := range int64(tries) {
		src := randomSource(seed)
		p, _, ok := check.Source(src)
		if !ok {
			refused++
			continue
		}
		g := rand.New(rand.NewSource(-seed))
		input := someInput[:g.Intn(len(someInput)+1)]
		for _, fuel := range []int{20000, g.Intn(3000), g.Intn(300)} {
			e, n := sameAsModel(t, src, p, input, fuel, []int{40, 1 + g.Intn(6), g.Intn(3)}[g.Intn(3)])
			ends[e.Kind]++
			if n > 1 {
				nested++
			}
		}
	}
	t.Log("ends", ends, "refused", refused, "nested", nested)
	if refused > tries/2 || ends[api.EndExit] < 500 || ends[api.EndTrap] < 100 || ends[api.EndFuel] < 500 || nested < 1000 {
		t.Error("too few of some kind")
	}
}

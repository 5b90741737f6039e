package sample

import "strings"

// global declares a variable outside of the functions.
func (w *writer) global() {
	w.globals = append(w.globals, w.declared(w.number))
}

// local declares a variable of the function.
func (w *writer) local() {
	w.locals = append(w.locals, w.declared(func() string { return w.expr(2) }))
}

// declared writes the declaration of a new variable, with some initial value or none.
func (w *writer) declared(value func() string) known {
	kind := "iucIUCs"[w.choose(7)]
	v := known{name: w.name("v"), kind: kind}
	switch kind {
	case 's':
		w.WriteString("struct s " + v.name)
	case 'I', 'U', 'C':
		w.WriteString(scalarOf(kind) + " " + v.name + "[" + w.oneOf("4", "5", "8", "8", "5", "9", "40", "300") + "]")
		if w.chance(2) {
			w.WriteString(" = {" + value() + w.oneOf("", ", "+value(), ", "+value()+", "+value()) + "}")
		} else if kind == 'C' {
			w.WriteString(w.oneOf("", ` = "ab"`))
		}
	default:
		w.WriteString(scalarOf(kind) + " " + v.name)
		if w.chance(2) {
			w.WriteString(" = " + value())
		}
	}
	w.WriteString(";\n")
	return v
}

func (w *writer) block(deep int) {
	was := len(w.locals)
	w.WriteString("{\n")
	for range 1 + w.choose(4) {
		if w.chance(3) {
			w.local()
		} else {
			w.statement(deep - 1)
		}
	}
	w.WriteString("}\n")
	w.locals = w.locals[:was]
}

// body is the statement within a loop or a branch.
func (w *writer) body(deep int) {
	if w.chance(8) {
		w.WriteString(";\n")
	} else {
		w.block(deep)
	}
}

// loop is one with a counter of its own, so that it mostly ends.
func (w *writer) loop(deep int) {
	v := known{name: w.name("n"), kind: 'i', keep: true}
	was := len(w.locals)
	w.WriteString("{ int " + v.name + ";\n")
	w.locals = append(w.locals, v)
	w.loops++
	up, most := v.name+" += 1", v.name+" < "+w.oneOf("2", "3", "5")
	switch w.choose(4) {
	case 0:
		w.WriteString("do ")
		w.body(deep)
		w.WriteString("while ((" + up + ") < 4 && (" + w.expr(1) + "));\n")
	case 1:
		w.WriteString("for (; ; " + up + ") { if (" + v.name + " > 3) break;\n")
		w.body(deep)
		w.WriteString("}\n")
	case 2:
		w.WriteString("for (" + w.assignment(1) + "; ; ) { if ((" + up + ") > 3) break; else ")
		w.body(deep)
		w.WriteString("}\n")
	default:
		w.WriteString("for (" + w.oneOf("", v.name+" = 0", w.expr(1)) + "; " + most + "; " + up + ")")
		w.body(deep)
	}
	w.loops--
	w.locals = w.locals[:was]
	w.WriteString("}\n")
}

// loopWhile is one whose test counts.
func (w *writer) loopWhile(deep int) {
	v := known{name: w.name("n"), kind: 'i', keep: true}
	was := len(w.locals)
	w.WriteString("{ int " + v.name + " = " + w.oneOf("0", "1", "5") + ";\nwhile ((" + v.name + " -= 1) >= 0" + w.oneOf("", " && "+w.expr(1)) + ")")
	w.locals = append(w.locals, v)
	w.loops++
	w.body(deep)
	w.loops--
	w.locals = w.locals[:was]
	w.WriteString("}\n")
}

func (w *writer) statement(deep int) {
	w.left--
	if deep <= 0 || w.left < 0 {
		w.WriteString(w.assignment(2) + ";\n")
		return
	}
	switch w.choose(14) {
	case 0, 1:
		w.WriteString("putbyte(" + w.expr(2) + ");\n")
	case 2:
		w.branch(deep)
	case 3, 4:
		if w.chance(3) {
			w.loopWhile(deep)
		} else {
			w.loop(deep)
		}
	case 5:
		w.block(deep)
	case 6:
		w.leap()
	case 7:
		if w.chance(3) {
			w.WriteString("if (" + w.expr(1) + ") " + w.returning() + "\n")
		}
	case 8, 9:
		if l := w.callable(); len(l) > 0 {
			w.WriteString(w.callOf(l[w.choose(len(l))], 2) + ";\n")
		}
	default:
		w.WriteString(w.oneOf(w.assignment(3), w.assignment(2), w.expr(3)) + ";\n")
	}
}

func (w *writer) branch(deep int) {
	w.WriteString("if (" + w.expr(2) + ")")
	w.body(deep)
	if w.chance(2) {
		w.WriteString("else ")
		w.body(deep)
	}
}

func (w *writer) leap() {
	if w.loops > 0 {
		w.WriteString("if (" + w.expr(1) + ") " + w.oneOf("break", "continue") + ";\n")
		return
	}
	w.WriteString(";\n")
}

func (w *writer) returning() string {
	if w.result == "void" {
		return "return;"
	}
	return "return " + w.expr(2) + ";"
}

func (w *writer) function(f routine) {
	w.result, w.locals, w.left = f.result, nil, 14
	var params []string
	for i := range len(f.params) {
		v := known{name: w.name("p"), kind: f.params[i]}
		params = append(params, parameter(v))
		w.locals = append(w.locals, v)
	}
	w.WriteString(f.result + " " + f.name + "(" + strings.Join(params, ", ") + ") {\n")
	for range 1 + w.choose(5) {
		if w.chance(3) {
			w.local()
		} else {
			w.statement(3)
		}
	}
	if f.name == "main" {
		w.report()
	}
	w.WriteString(w.returning() + "\n}\n")
}

// report puts what the variables have become: else little would be seen of most of what is done.
func (w *writer) report() {
	for _, name := range w.all("iuc") {
		w.WriteString("putbyte(" + name + "); putbyte(" + name + " >> 8);\n")
	}
	for _, name := range w.all("IUC") {
		w.WriteString("putbyte(" + name + "[0]); putbyte(" + name + "[1]); putbyte(" + name + "[2] >> 8);\n")
	}
}

func parameter(v known) string {
	switch v.kind {
	case 'r':
		return "struct s *" + v.name
	case 'I', 'U', 'C':
		return scalarOf(v.kind) + " " + v.name + "[]"
	}
	return scalarOf(v.kind) + " " + v.name
}

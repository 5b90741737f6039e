package sample

import "strings"

func (w *writer) index(deep int) string {
	switch w.choose(20) {
	case 0:
		return w.expr(deep)
	case 1, 2:
		return w.oneOf("0", "1", "2", "3", "4", "5", "6", "7", "-1")
	}
	return "(" + w.expr(deep) + ") & " + w.oneOf("1", "2", "3", "1u")
}

func (w *writer) place(deep int) string {
	if w.chance(2) {
		return w.oneOf(w.all("IUC")...) + "[" + w.index(deep-1) + "]"
	}
	return w.scalar()
}

func (w *writer) number() string {
	return w.oneOf("0", "1", "2", "3", "7", "31", "32", "255", "256", "1000", "65535", "2147483647", "2147483648u", "4294967295u", "5u", "'a'", "'\\xff'", "sizeof(struct s)")
}

func (w *writer) argument(kind byte, deep int) string {
	switch kind {
	case 'r':
		return w.reference()
	case 'C':
		if w.chance(3) {
			return w.oneOf(`"abc"`, `""`, `"hello\n"`)
		}
		return w.oneOf(w.all("C")...)
	case 'I', 'U':
		return w.oneOf(w.all(string([]byte{kind}))...)
	}
	return w.expr(deep)
}

// reference is an argument that stands for a struct.
func (w *writer) reference() string {
	var l []string
	for _, v := range w.known() {
		switch v.kind {
		case 's':
			l = append(l, "&"+v.name)
		case 'r':
			l = append(l, v.name)
		}
	}
	return w.oneOf(l...)
}

func (w *writer) call(deep int) string {
	var l []routine
	for _, f := range w.callable() {
		if f.result != "void" {
			l = append(l, f)
		}
	}
	if len(l) == 0 {
		return "getbyte()"
	}
	return w.callOf(l[w.choose(len(l))], deep)
}

func (w *writer) callOf(f routine, deep int) string {
	var args []string
	for i := range len(f.params) {
		args = append(args, w.argument(f.params[i], deep-1))
	}
	return f.name + "(" + strings.Join(args, ", ") + ")"
}

func (w *writer) expr(deep int) string {
	if deep <= 0 {
		if w.chance(2) {
			return w.number()
		}
		return w.oneOf(append(w.counters(), w.scalar())...)
	}
	switch w.choose(17) {
	case 0, 1, 2:
		return "(" + w.expr(deep-1) + " " + w.oneOf("+", "-", "*", "&", "|", "^", "<<", ">>", "<", ">", "<=", ">=", "==", "!=") + " " + w.expr(deep-1) + ")"
	case 3:
		return "(" + w.expr(deep-1) + w.oneOf(" / ", " % ") + "(" + w.expr(deep-1) + w.oneOf(" | 1", " | 1", " | 3u", "") + "))"
	case 4:
		return w.oneOf("-", "~", "!", "- -") + "(" + w.expr(deep-1) + ")"
	case 5:
		return "(" + w.expr(deep-1) + w.oneOf(" && ", " || ") + w.expr(deep-1) + ")"
	case 6:
		return "(" + w.expr(deep-1) + " ? " + w.expr(deep-1) + " : " + w.expr(deep-1) + ")"
	case 7, 8:
		return "(" + w.assignment(deep) + ")"
	case 9:
		return "(" + w.oneOf("int", "uint", "char") + ")" + "(" + w.expr(deep-1) + ")"
	case 10:
		return "getbyte()"
	case 11:
		return w.call(deep)
	case 12:
		return w.changed(deep)
	}
	return w.place(deep)
}

// changed uses a variable, changes it, and mostly uses it again.
func (w *writer) changed(deep int) string {
	v := w.scalar()
	change := "(" + v + w.oneOf(" = ", " += ", " -= ") + w.expr(deep-1) + ")"
	return "(" + v + w.oneOf(" + ", " - ", " * 3 + ") + w.oneOf(change, "(("+w.expr(0)+") && "+change+")", "("+w.expr(0)+" ? "+change+" : 1)") + w.oneOf("", " - "+v, " + "+v) + ")"
}

func (w *writer) assignment(deep int) string {
	how := w.oneOf("=", "=", "+=", "-=", "*=", "&=", "|=", "^=", "<<=", ">>=", "/=", "%=")
	value := w.expr(deep - 1)
	if (how == "/=" || how == "%=") && !w.chance(4) {
		value = "(" + value + ") | 1"
	}
	return w.place(deep-1) + " " + how + " " + value
}

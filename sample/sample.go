// Package sample writes sources by chance, with which the tests of the layers are fed.
package sample

import (
	"strconv"
	"strings"
)

// writer writes a source: nearly always a program, with loops that mostly end and indices that mostly fit.
type writer struct {
	strings.Builder
	choose  func(n int) int
	globals []known
	locals  []known
	funcs   []routine
	current int // which of them is written; behind the last one: main
	result  string
	names   int
	loops   int
	left    int // how many statements the function may still have
}

// known is a variable that may be used: kind is i, u, c (a scalar), I, U, C (an array), s (the struct), r (a reference to it).
type known struct {
	name string
	kind byte
	keep bool // it counts a loop: nothing else is stored there
}

type routine struct {
	name, result, params string // params: a kind each
}

const structText = "struct s { char c; int i; char d[5]; uint u; int a[3]; };\n"

const globalText = "int gi; char gc[6] = \"xyz\"; int gI[4] = {1, -2}; uint gU[5]; struct s gs;\n"

// Source is the text of a program of which each choice among n things is what choose tells: 0 to n - 1.
func Source(choose func(n int) int) string {
	w := &writer{choose: choose}
	w.WriteString(structText + globalText)
	w.globals = []known{{"gi", 'i', false}, {"gc", 'C', false}, {"gI", 'I', false}, {"gU", 'U', false}, {"gs", 's', false}}
	for range w.choose(4) {
		w.global()
	}
	for i := range 1 + w.choose(4) {
		f := routine{name: "f" + strconv.Itoa(i), result: w.oneOf("int", "uint", "char", "void")}
		for range w.choose(5) {
			f.params += string("iucIUCr"[w.choose(7)])
		}
		w.funcs = append(w.funcs, f)
	}
	for i, f := range w.funcs {
		w.current = i
		w.function(f)
	}
	w.current = len(w.funcs)
	w.function(routine{name: "main", result: "int"})
	return w.String()
}

func (w *writer) chance(n int) bool { return w.choose(n) == 0 }

func (w *writer) oneOf(l ...string) string { return l[w.choose(len(l))] }

func (w *writer) name(first string) string {
	w.names++
	return first + strconv.Itoa(w.names)
}

// scalarOf is the type of a scalar, or of an array's elements.
func scalarOf(kind byte) string {
	switch kind {
	case 'i', 'I':
		return "int"
	case 'u', 'U':
		return "uint"
	}
	return "char"
}

// known are all variables, the globals first.
func (w *writer) known() []known {
	return append(append([]known{}, w.globals...), w.locals...)
}

// all are the variables of these kinds, with the struct's members.
func (w *writer) all(kinds string) []string { return named(w.known(), kinds) }

// scalar is a variable or a member, more often one of the function's own.
func (w *writer) scalar() string {
	if own := named(w.locals, "iuc"); len(own) > 0 && !w.chance(3) {
		return w.oneOf(own...)
	}
	return w.oneOf(w.all("iuc")...)
}

// callable are the functions that may be called here: mostly none that could lead back, as many calls would never end.
func (w *writer) callable() []routine {
	if w.chance(5) {
		return w.funcs
	}
	return w.funcs[:w.current]
}

// named are those of some variables that are of these kinds, with the struct's members.
func named(of []known, kinds string) []string {
	var l []string
	for _, v := range of {
		switch {
		case v.kind == 's':
			l = append(l, members(v.name+".", kinds)...)
		case v.kind == 'r':
			l = append(l, members(v.name+"->", kinds)...)
		case strings.IndexByte(kinds, v.kind) >= 0 && !v.keep:
			l = append(l, v.name)
		}
	}
	return l
}

// members are those members of the struct that are of these kinds.
func members(ahead, kinds string) []string {
	var l []string
	for i, m := range []string{"c", "i", "d", "u", "a"} {
		if strings.IndexByte(kinds, "ciCuI"[i]) >= 0 {
			l = append(l, ahead+m)
		}
	}
	return l
}

// counters are the variables that count loops.
func (w *writer) counters() []string {
	var l []string
	for _, v := range w.locals {
		if v.keep {
			l = append(l, v.name)
		}
	}
	return l
}

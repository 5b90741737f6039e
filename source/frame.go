package source

import (
	"slices"

	"crucible/api"
)

// maxNest is beyond how deep a routine's terms can nest: a tree has at most 2^18 nodes, and a node becomes at most three terms, one in the other.
const maxNest = 1 << 20

// frame is a call's own, and the run that it is of.
type frame struct {
	*run
	vars   []api.Var
	room   []byte // its variables' bytes, kept for later calls
	own    []variable
	tasks  []task     // the terms that are under way, the innermost last: calls in terms nest too deep for recursion
	args   []argument // of calls that are not yet begun, reckoned so far
	places []place    // of assignments whose values are not yet reckoned
}

// task is a term that is under way.
type task struct {
	term *api.Term
	next int32  // how far it has come: which of its parts is next
	kept uint32 // the value of an earlier part
}

// place is where a scalar lies.
type place struct {
	bytes []byte // from there on
	kind  int    // of the scalar
}

// shape is what a call of a routine needs.
type shape struct {
	spans []span // of the variables
	size  int    // of all of them
}

// span is where a variable lies in the room of its call; what stands for another has none.
type span struct{ from, to int }

// shaped lays a routine's variables one behind the other.
func shaped(vars []api.Var, records []api.Record) shape {
	need(len(vars) <= api.MaxLocals)
	s := shape{spans: make([]span, len(vars))}
	for i, v := range vars {
		if isReference(v.Type) {
			continue
		}
		n := size(v.Type, records)
		s.spans[i] = span{s.size, s.size + n}
		s.size += (n + 3) / 4 * 4
		need(s.size <= api.MaxFrame)
	}
	return s
}

func isReference(t api.Type) bool {
	return t.Kind == api.TypeRefArray || t.Kind == api.TypeRefStruct
}

// open makes a call's variables: all are empty, but for the parameters.
func (f *frame) open(which int, args []argument) {
	s := f.shapes[which]
	f.vars = f.routines[which].Vars
	f.room = slices.Grow(f.room[:0], s.size)[:s.size]
	clear(f.room)
	f.own = f.own[:0]
	for _, at := range s.spans {
		f.own = append(f.own, variable{bytes: f.room[at.from:at.to]})
	}
	for i := range f.routines[which].Params {
		if t := f.vars[i].Type; isReference(t) {
			f.own[i] = args[i].handed
		} else {
			place{f.own[i].bytes, t.Kind}.store(args[i].value)
		}
	}
	f.tasks, f.args, f.places = f.tasks[:0], f.args[:0], f.places[:0]
}

// variable is that which a term names.
func (f *frame) variable(t *api.Term) variable {
	if t.Global {
		return f.globals[t.Var]
	}
	return f.own[t.Var]
}

// begin reckons an expression, or does a statement, that has no parts; of another it is the beginning.
func (f *frame) begin(t *api.Term) {
	if !f.spend() {
		return
	}
	switch {
	case t.Kind == api.TermConst:
		f.value = uint32(t.Imm)
	case t.Kind == api.TermPlace && len(t.Kids) == 0:
		f.value = f.first(t).load()
	case t.Kind == api.TermGet:
		f.value = f.get()
	case t.Kind == api.TermBreak, t.Kind == api.TermContinue:
		f.jump(t.Kind == api.TermBreak)
	case t.Kind != api.TermNone:
		need(len(f.tasks) < maxNest)
		f.tasks = append(f.tasks, task{term: t})
	}
}

// resume goes on with the innermost term that is under way; where there is none the call has come to its end.
func (f *frame) resume() {
	if len(f.tasks) == 0 {
		f.leave(0)
		return
	}
	k := &f.tasks[len(f.tasks)-1]
	if k.term.Kind < api.TermBlock {
		f.reckon(k)
	} else {
		f.do(k)
	}
}

// finish is the end of the innermost term.
func (f *frame) finish() {
	f.tasks = f.tasks[:len(f.tasks)-1]
}

// finishWith is the end of the innermost expression: what its value is.
func (f *frame) finishWith(x uint32) {
	f.value = x
	f.finish()
}

// part begins the next part of a term.
func (f *frame) part(k *task) {
	k.next++
	f.begin(&k.term.Kids[k.next-1])
}

// turnTo ends a term of which only one part is left, and begins that.
func (f *frame) turnTo(t *api.Term) {
	f.finish()
	f.begin(t)
}

// load is the scalar that lies there.
func (p place) load() uint32 {
	if p.kind == api.TypeChar {
		return uint32(p.bytes[0])
	}
	b := p.bytes[:4]
	return uint32(b[0]) | uint32(b[1])<<8 | uint32(b[2])<<16 | uint32(b[3])<<24
}

// store lays a scalar there.
func (p place) store(x uint32) {
	if p.kind == api.TypeChar {
		p.bytes[0] = byte(x)
		return
	}
	b := p.bytes[:4]
	b[0], b[1], b[2], b[3] = byte(x), byte(x>>8), byte(x>>16), byte(x>>24)
}

// width is how many bytes a scalar has.
func width(kind int) int {
	if kind == api.TypeChar {
		return 1
	}
	return 4
}

package source

import (
	"crucible/api"
	"crucible/word"
)

// reckon goes on with an expression.
func (f *frame) reckon(k *task) {
	switch k.term.Kind {
	case api.TermPlace:
		f.read(k)
	case api.TermAssign:
		f.assign(k)
	case api.TermAlu:
		f.alu(k)
	case api.TermAnd, api.TermOr:
		f.logical(k)
	case api.TermCond:
		f.choose(k)
	case api.TermCall:
		f.call(k)
	case api.TermConv, api.TermPut:
		f.single(k)
	default:
		panic(noProgram)
	}
}

// first is where a TermPlace lies that has no index; of one that has, the first of the array's elements.
func (f *frame) first(t *api.Term) place {
	return place{f.variable(t).bytes[t.Field:], t.Elem}
}

// element is where the element lies whose index was reckoned; false: it is none, and the run has ended.
func (f *frame) element(t *api.Term) (place, bool) {
	n := t.Len
	if n == -1 {
		n = f.variable(t).elements
	}
	if uint64(f.value) >= uint64(n) {
		f.trap(api.TrapBounds)
		return place{}, false
	}
	p := f.first(t)
	p.bytes = p.bytes[int(f.value)*width(t.Elem):]
	return p, true
}

// read reckons what lies in a place that has an index.
func (f *frame) read(k *task) {
	if k.next == 0 {
		f.part(k)
		return
	}
	if p, ok := f.element(k.term); ok {
		f.finishWith(p.load())
	}
}

// The parts of a TermAssign, as task.next counts them.
const (
	assignPlace = iota
	assignElement
	assignValue
)

// assign reckons a TermAssign.
func (f *frame) assign(k *task) {
	at := &k.term.Kids[0]
	switch k.next {
	case assignPlace:
		if !f.spend() {
			return
		}
		if len(at.Kids) == 0 {
			f.target(k, f.first(at))
			return
		}
		k.next = assignElement
		f.begin(&at.Kids[0])
	case assignElement:
		if p, ok := f.element(at); ok {
			f.target(k, p)
		}
	case assignValue:
		f.settle(k)
	}
}

// target keeps the place of a TermAssign, and what lies there now, and begins the value.
func (f *frame) target(k *task, p place) {
	f.places = append(f.places, p)
	k.next, k.kept = assignValue, word.Conv(k.term.Mid, p.load())
	f.begin(&k.term.Kids[1])
}

// settle stores the value of a TermAssign that was reckoned.
func (f *frame) settle(k *task) {
	t, x := k.term, f.value
	if t.Op != 0 {
		var trap int
		if x, trap = word.Alu(t.Op, k.kept, x); trap != api.TrapNone {
			f.trap(trap)
			return
		}
	}
	x = word.Conv(t.Type, x)
	last := len(f.places) - 1
	f.places[last].store(x)
	f.places = f.places[:last]
	f.finishWith(x)
}

// alu reckons a TermAlu.
func (f *frame) alu(k *task) {
	if k.next < 2 {
		k.kept = f.value
		f.part(k)
		return
	}
	x, trap := word.Alu(k.term.Op, k.kept, f.value)
	if trap != api.TrapNone {
		f.trap(trap)
		return
	}
	f.finishWith(x)
}

// logical reckons a TermAnd or TermOr: a first part that decides is the only one.
func (f *frame) logical(k *task) {
	if k.next == 0 {
		f.part(k)
		return
	}
	holds := f.value != 0
	if k.next == 1 && holds == (k.term.Kind == api.TermAnd) {
		f.part(k)
		return
	}
	if holds {
		f.finishWith(1)
	} else {
		f.finishWith(0)
	}
}

// choose reckons a TermCond.
func (f *frame) choose(k *task) {
	if k.next == 0 {
		f.part(k)
		return
	}
	if f.value != 0 {
		f.turnTo(&k.term.Kids[1])
	} else {
		f.turnTo(&k.term.Kids[2])
	}
}

// single reckons a TermConv or TermPut.
func (f *frame) single(k *task) {
	if k.next == 0 {
		f.part(k)
		return
	}
	if k.term.Kind == api.TermConv {
		f.finishWith(word.Conv(k.term.Type, f.value))
		return
	}
	f.put(f.value)
	f.finishWith(0)
}

// call reckons a TermCall: its arguments one by one, and then the call, which tells its value by itself.
func (f *frame) call(k *task) {
	t := k.term
	need(len(t.Kids) <= api.MaxParams)
	if k.next > 0 {
		f.args = append(f.args, argument{value: f.value})
	}
	for int(k.next) < len(t.Kids) {
		a := &t.Kids[k.next]
		if a.Kind != api.TermArray && a.Kind != api.TermStruct {
			f.part(k)
			return
		}
		f.args = append(f.args, argument{handed: f.handed(a)})
		k.next++
	}
	f.finish()
	first := len(f.args) - len(t.Kids)
	args := f.args[first:]
	f.args = f.args[:first]
	f.enter(t.Func, args)
}

// handed is what a TermArray or TermStruct hands on.
func (f *frame) handed(t *api.Term) variable {
	v := f.variable(t)
	if t.Kind == api.TermArray && t.Len != -1 {
		v.elements = t.Len
	}
	v.bytes = v.bytes[t.Field:]
	return v
}

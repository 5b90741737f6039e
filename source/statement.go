package source

import "crucible/api"

// do goes on with a statement.
func (f *frame) do(k *task) {
	switch k.term.Kind {
	case api.TermBlock:
		f.block(k)
	case api.TermEval:
		f.turnTo(&k.term.Kids[0])
	case api.TermDecl:
		f.declare(k)
	case api.TermIf:
		f.branch(k)
	case api.TermWhile:
		f.loopWhile(k)
	case api.TermDo:
		f.loopDo(k)
	case api.TermFor:
		f.loopFor(k)
	case api.TermReturn:
		f.tell(k)
	default:
		panic(noProgram)
	}
}

// block does a TermBlock.
func (f *frame) block(k *task) {
	if int(k.next) < len(k.term.Kids) {
		f.part(k)
		return
	}
	f.finish()
}

// declare does a TermDecl: each value is stored ahead of the next one's being reckoned.
func (f *frame) declare(k *task) {
	bytes := f.variable(k.term).bytes
	if k.next == 0 {
		clear(bytes)
	} else {
		kind := f.scalar(k.term.Var)
		place{bytes[int(k.next-1)*width(kind):], kind}.store(f.value)
	}
	f.block(k)
}

// scalar is the kind of a variable, or of its elements.
func (f *frame) scalar(which int) int {
	if t := f.vars[which].Type; t.Kind == api.TypeArray {
		return t.Elem
	}
	return f.vars[which].Type.Kind
}

// branch does a TermIf.
func (f *frame) branch(k *task) {
	kids := k.term.Kids
	switch {
	case k.next == 0:
		f.part(k)
	case f.value != 0:
		f.turnTo(&kids[1])
	case len(kids) > 2:
		f.turnTo(&kids[2])
	default:
		f.finish()
	}
}

// The parts of a loop, as task.next counts them. It goes on with its next part where a TermContinue ends its body.
const (
	loopFirst = iota // of a TermFor its first part, of a TermDo its first body
	loopTest
	loopBody
	loopStep
)

// loopWhile does a TermWhile.
func (f *frame) loopWhile(k *task) {
	switch {
	case k.next != loopBody:
		k.next = loopBody
		f.begin(&k.term.Kids[0])
	case f.value == 0:
		f.finish()
	default:
		k.next = loopTest
		f.begin(&k.term.Kids[1])
	}
}

// loopDo does a TermDo.
func (f *frame) loopDo(k *task) {
	switch {
	case k.next == loopTest:
		k.next = loopBody
		f.begin(&k.term.Kids[1])
	case k.next == loopBody && f.value == 0:
		f.finish()
	default:
		k.next = loopTest
		f.begin(&k.term.Kids[0])
	}
}

// loopFor does a TermFor.
func (f *frame) loopFor(k *task) {
	kids := k.term.Kids
	switch k.next {
	case loopFirst:
		k.next = loopTest
		f.beginIfThere(&kids[0])
	case loopTest:
		k.next = loopBody
		f.value = 1 // of a test that isn't there
		f.beginIfThere(&kids[1])
	case loopBody:
		if f.value == 0 {
			f.finish()
			return
		}
		k.next = loopStep
		f.begin(&kids[3])
	case loopStep:
		k.next = loopTest
		f.beginIfThere(&kids[2])
	}
}

// beginIfThere begins a part of a TermFor; one that is left out spends nothing.
func (f *frame) beginIfThere(t *api.Term) {
	if t.Kind != api.TermNone {
		f.begin(t)
	}
}

// jump ends what is under way within the innermost loop, and that too, if it is broken off.
func (f *frame) jump(out bool) {
	for !isLoop(f.tasks[len(f.tasks)-1].term.Kind) {
		f.finish()
	}
	if out {
		f.finish()
	}
}

func isLoop(kind int) bool {
	return kind == api.TermWhile || kind == api.TermDo || kind == api.TermFor
}

// tell does a TermReturn.
func (f *frame) tell(k *task) {
	if int(k.next) < len(k.term.Kids) {
		f.part(k)
		return
	}
	if k.next == 0 {
		f.leave(0)
		return
	}
	f.leave(f.value)
}

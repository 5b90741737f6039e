package irrun

import "crucible/api"

// nowhere is the block that a call comes from to its first one.
const nowhere = -1

// call is a call under way.
type call struct {
	number   int // no other call of the run has it; from 1 on
	function int
	slots    uint32 // where they begin
	hidden   int    // how many registers of calls further out were hidden ahead of it
	block    int
	next     int // which of the block's instructions is done next; behind the last one it is the block's end
}

// register is one of a function's registers, as its innermost call that gave it a value has it.
//
// A function's calls share them, so that a call costs what it does, not what registers its function has:
// calls may be many, and registers 65536.
type register struct {
	value uint32
	owner int // the call that gave it the value: for all others it is 0
}

// hiding is what a register was, ahead of a call's giving it a value.
type hiding struct {
	register *register
	was      register
}

// enter begins a call, if there is room for it.
func (r *run) enter(function int, args []uint32) {
	f := &r.program.Funcs[function]
	if len(r.calls) >= r.deep || !r.memory.push(f.Slots) {
		r.trap(api.TrapStack)
		return
	}
	if r.banks[function] == nil {
		r.banks[function] = make([]register, f.Regs)
	}
	r.begun++
	r.calls = append(r.calls, call{number: r.begun, function: function, slots: uint32(r.memory.low), hidden: len(r.hidden)})
	r.resume()
	for i, a := range args {
		r.set(i, a)
	}
	r.arrive(0, nowhere)
}

// resume has the run look at the innermost call.
func (r *run) resume() {
	r.top = &r.calls[len(r.calls)-1]
	r.function = &r.program.Funcs[r.top.function]
	r.bank = r.banks[r.top.function]
}

// leave ends the innermost call, and with that of Main the run.
func (r *run) leave(told uint32) {
	for len(r.hidden) > r.top.hidden {
		h := r.hidden[len(r.hidden)-1]
		r.hidden = r.hidden[:len(r.hidden)-1]
		*h.register = h.was
	}
	r.memory.pop(r.function.Slots)
	r.calls = r.calls[:len(r.calls)-1]
	if len(r.calls) == 0 {
		r.end.Kind, r.end.Code = api.EndExit, int32(told)
		return
	}
	r.resume()
	asked := r.function.Blocks[r.top.block].Code[r.top.next-1]
	if asked.Dst != none {
		r.set(asked.Dst, told)
	}
}

// get is what a register of the innermost call has.
func (r *run) get(i int) uint32 {
	if r.bank[i].owner != r.top.number {
		return 0
	}
	return r.bank[i].value
}

// set gives a register of the innermost call a value.
func (r *run) set(i int, value uint32) {
	x := &r.bank[i]
	if x.owner != r.top.number {
		r.hidden = append(r.hidden, hiding{register: x, was: *x})
		x.owner = r.top.number
	}
	x.value = value
}

// told is what an Arg has that may be none.
func (r *run) told(i int) uint32 {
	if i == none {
		return 0
	}
	return r.get(i)
}

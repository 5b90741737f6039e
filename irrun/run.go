package irrun

import (
	"slices"

	"crucible/api"
	"crucible/word"
)

// going is the kind of the end of a run that has not come to it.
const going = 0

// none is the Dst of a call whose value nobody wants, and the Arg of an EndReturn that tells nothing.
const none = -1

// run is a program's run.
type run struct {
	program  api.Program
	banks    [][]register // of the functions; nil, till one is called
	hidden   []hiding
	memory   memory
	calls    []call
	begun    int       // how many calls began
	top      *call     // the innermost call
	function *api.Func // its function
	bank     []register
	chosen   []uint32 // what the OpPhis of a block tell
	input    string
	out      []byte
	fuel     int
	deep     int
	sought   reckoning
	times    int     // how often that was done
	end      api.End // all but Out
}

// reckoning is an OpAlu of a function.
type reckoning struct {
	function int
	alu      int
	args     []int
}

// step does an instruction, or a block's end.
func (r *run) step() {
	if !r.spend(1) {
		return
	}
	b := &r.function.Blocks[r.top.block]
	if r.top.next == len(b.Code) {
		r.finish(b)
		return
	}
	x := &b.Code[r.top.next]
	r.top.next++
	r.do(x)
}

// spend takes fuel; false: there was not so much, and the run has ended.
func (r *run) spend(steps int) bool {
	if r.fuel < steps {
		r.end.Kind = api.EndFuel
		return false
	}
	r.fuel -= steps
	return true
}

// trap ends the run.
func (r *run) trap(kind int) {
	r.end.Kind, r.end.Trap = api.EndTrap, kind
}

// finish does a block's end.
func (r *run) finish(b *api.Block) {
	from := r.top.block
	switch b.End {
	case api.EndJump:
		r.arrive(b.To[0], from)
	case api.EndBranch:
		way := 0
		if r.get(b.Arg) == 0 {
			way = 1
		}
		r.arrive(b.To[way], from)
	case api.EndReturn:
		r.leave(r.told(b.Arg))
	}
}

// arrive comes to a block, and does its OpPhis, all at once.
func (r *run) arrive(block, from int) {
	code := r.function.Blocks[block].Code
	r.top.block, r.top.next = block, phis(code)
	if r.top.next == 0 || !r.spend(r.top.next) {
		return
	}
	// All of them have the block's predecessors as Pred, so that one place is that of all their Args.
	place, found := slices.BinarySearch(code[0].Pred, from)
	r.chosen = r.chosen[:0]
	for i := range r.top.next {
		value := uint32(0)
		if found {
			value = r.get(code[i].Args[place])
		}
		r.chosen = append(r.chosen, value)
	}
	for i, value := range r.chosen {
		r.set(code[i].Dst, value)
	}
}

// phis is how many OpPhis a block begins with.
func phis(code []api.Instr) int {
	n := 0
	for n < len(code) && code[n].Op == api.OpPhi {
		n++
	}
	return n
}

// do does an instruction that is no OpPhi.
func (r *run) do(x *api.Instr) {
	switch x.Op {
	case api.OpConst:
		r.set(x.Dst, uint32(x.Imm))
	case api.OpCopy:
		r.set(x.Dst, r.get(x.Args[0]))
	case api.OpAlu:
		r.reckon(x)
	case api.OpGlobal:
		r.set(x.Dst, api.GlobalBase+uint32(x.Imm))
	case api.OpSlot:
		r.set(x.Dst, r.top.slots+uint32(x.Imm))
	case api.OpLoad, api.OpStore:
		r.access(x)
	case api.OpCheck:
		if r.get(x.Args[0]) == 0 {
			r.trap(int(x.Imm))
		}
	case api.OpCall:
		r.call(x)
	case api.OpGet:
		r.set(x.Dst, r.nextByte())
	case api.OpPut:
		r.out = append(r.out, byte(r.get(x.Args[0])))
	}
}

// reckon does an OpAlu.
func (r *run) reckon(x *api.Instr) {
	if r.isSought(x) {
		r.times++
	}
	value, trap := word.Alu(x.Alu, r.get(x.Args[0]), r.get(x.Args[1]))
	if trap != api.TrapNone {
		r.trap(trap)
		return
	}
	r.set(x.Dst, value)
}

func (r *run) isSought(x *api.Instr) bool {
	return r.top.function == r.sought.function && x.Alu == r.sought.alu && slices.Equal(x.Args, r.sought.args)
}

// access does an OpLoad, or an OpStore.
func (r *run) access(x *api.Instr) {
	l := r.memory.at(r.get(x.Args[0])+uint32(x.Imm), x.Wide)
	if l == nil {
		r.trap(api.TrapMemory)
		return
	}
	if x.Op == api.OpLoad {
		r.set(x.Dst, wordOf(l))
		return
	}
	layWord(l, r.get(x.Args[1]))
}

// call begins a call with what the innermost one has in some registers.
func (r *run) call(x *api.Instr) {
	var room [api.MaxArgs]uint32
	args := room[:0]
	for _, a := range x.Args {
		args = append(args, r.get(a))
	}
	r.enter(int(x.Imm), args)
}

// nextByte is the next byte of the input; that there is none is told by -1.
func (r *run) nextByte() uint32 {
	if r.end.Used == len(r.input) {
		return 1<<32 - 1
	}
	r.end.Used++
	return uint32(r.input[r.end.Used-1])
}

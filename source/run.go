package source

import (
	"crucible/api"
	"crucible/types"
)

// going is the kind of the end of a run that has not come to it.
const going = 0

// noProgram is why the terms of some hand, which layer 12 can't have told, are gone no further with.
const noProgram = "no checked program"

// run is a program's run: all that its calls share.
type run struct {
	routines []api.Routine
	shapes   []shape // of the routines
	globals  []variable
	input    string
	out      []byte
	fuel     int
	deep     int
	frames   []*frame // by how many calls were under way; those of calls that ended are taken again
	top      *frame   // that of the innermost call
	under    int      // how many calls are under way
	most     int
	value    uint32  // of the expression that was reckoned last
	end      api.End // all but Out
}

// variable is where a variable lies: bytes of its call, of the globals, or that were handed on.
type variable struct {
	bytes    []byte
	elements int // how many were handed on
}

// argument is what a parameter is given.
type argument struct {
	value  uint32   // of a scalar
	handed variable // of a reference
}

// prepare lays out the globals, and what calls of each routine need.
func (r *run) prepare(p api.Checked) {
	need(p.Size >= 0 && p.Size <= api.MaxGlobal)
	room := make([]byte, p.Size)
	for _, d := range p.Data {
		copy(room[d.At:d.At+len(d.Bytes)], d.Bytes)
	}
	r.globals = make([]variable, len(p.Globals))
	for i, g := range p.Globals {
		r.globals[i].bytes = room[g.At : g.At+size(g.Type, p.Records)]
	}
	r.shapes = make([]shape, len(p.Routines))
	for i, f := range p.Routines {
		r.shapes[i] = shaped(f.Vars, p.Records)
	}
}

// need ends the run of what is no program of layer 12.
func need(holds bool) {
	if !holds {
		panic(noProgram)
	}
}

// size is how many bytes a variable has, which is none that stands for another one.
func size(t api.Type, records []api.Record) int {
	n, err := types.Size(t, records)
	need(err == api.OK)
	return n
}

// spend takes one of the fuel; false: there was none, and the run has ended.
func (r *run) spend() bool {
	if r.fuel == 0 {
		r.end.Kind = api.EndFuel
		return false
	}
	r.fuel--
	return true
}

// trap ends the run.
func (r *run) trap(kind int) {
	r.end.Kind, r.end.Trap = api.EndTrap, kind
}

// get is the next byte of the input.
func (r *run) get() uint32 {
	if r.end.Used == len(r.input) {
		return 1<<32 - 1
	}
	r.end.Used++
	return uint32(r.input[r.end.Used-1])
}

// put puts a value's lowest byte.
func (r *run) put(x uint32) {
	r.out = append(r.out, byte(x))
}

// enter begins a call, unless as many are under way as may be.
func (r *run) enter(which int, args []argument) {
	if r.under == r.deep {
		r.end.Kind = api.EndFuel
		return
	}
	if r.under == len(r.frames) {
		r.frames = append(r.frames, &frame{run: r})
	}
	r.top = r.frames[r.under]
	r.under++
	r.most = max(r.most, r.under)
	r.top.open(which, args)
	r.top.begin(&r.routines[which].Body)
}

// leave ends the innermost call, and with that of Main the run.
func (r *run) leave(told uint32) {
	r.under--
	r.value = told
	if r.under == 0 {
		r.end.Kind, r.end.Code = api.EndExit, int32(told)
		return
	}
	r.top = r.frames[r.under-1]
}

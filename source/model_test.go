package source

import (
	"crucible/api"
	"crucible/word"
)

// The model goes through the terms by recursion, as the chapter's tables have them, with new memory for each variable.

// thing is a variable: cells that others may see too, from one on, and how many elements were handed on.
type thing struct {
	cells *[]byte
	from  int
	count int
}

type modelRun struct {
	api.Checked
	globals    []thing
	input      string
	fuel, deep int
	calls      int
	most       int
	end        api.End
}

type modelCall struct {
	run  *modelRun
	vars []api.Var
	has  []thing
}

// What a statement comes to.
const (
	onward = iota
	broken
	continued
	returned
)

// over is thrown at a run's end.
type over struct{}

func (r *modelRun) stop(kind, trap int) {
	r.end.Kind, r.end.Trap = kind, trap
	panic(over{})
}

func (r *modelRun) pay() {
	if r.fuel <= 0 {
		r.stop(api.EndFuel, 0)
	}
	r.fuel--
}

func bytesOf(t api.Type, l []api.Record) int {
	each := map[int]int{api.TypeInt: 4, api.TypeUint: 4, api.TypeChar: 1}
	switch t.Kind {
	case api.TypeArray:
		return each[t.Elem] * t.Len
	case api.TypeStruct:
		return l[t.Struct].Size
	}
	return each[t.Kind]
}

func newThing(n int) thing {
	cells := make([]byte, n)
	return thing{cells: &cells}
}

func (x thing) load(at, kind int) uint32 {
	c := (*x.cells)[x.from+at:]
	if kind == api.TypeChar {
		return uint32(c[0])
	}
	v := uint32(0)
	for i := 3; i >= 0; i-- {
		v = v*256 + uint32(c[i])
	}
	return v
}

func (x thing) store(at, kind int, v uint32) {
	n := 4
	if kind == api.TypeChar {
		n = 1
	}
	for i := 0; i < n; i++ {
		(*x.cells)[x.from+at+i] = byte(v % 256)
		v /= 256
	}
}

// modelled is what Run is to answer of a checked program and arguments that may be.
func modelled(p api.Checked, input string, fuel, deep int) (end api.End, most int) {
	r := &modelRun{Checked: p, input: input, fuel: fuel, deep: deep}
	all := newThing(p.Size)
	for _, d := range p.Data {
		copy((*all.cells)[d.At:], d.Bytes)
	}
	for _, g := range p.Globals {
		r.globals = append(r.globals, thing{cells: all.cells, from: g.At})
	}
	defer func() {
		if x := recover(); x != nil {
			if _, ok := x.(over); !ok {
				panic(x)
			}
		}
		end, most = r.end, r.most
	}()
	v := r.call(p.Main, nil, nil)
	r.end.Kind, r.end.Code = api.EndExit, int32(v)
	return
}

// call is a call: scalars holds the values of parameters that are such, things the others.
func (r *modelRun) call(which int, scalars []uint32, things []thing) uint32 {
	if r.calls >= r.deep {
		r.stop(api.EndFuel, 0)
	}
	r.calls++
	r.most = max(r.most, r.calls)
	f := r.Routines[which]
	c := &modelCall{run: r, vars: f.Vars}
	for i, v := range f.Vars {
		if v.Type.Kind == api.TypeRefArray || v.Type.Kind == api.TypeRefStruct {
			c.has = append(c.has, things[i])
			continue
		}
		x := newThing(bytesOf(v.Type, r.Records))
		if i < f.Params {
			x.store(0, v.Type.Kind, scalars[i])
		}
		c.has = append(c.has, x)
	}
	_, v := c.do(f.Body)
	r.calls--
	return v
}

func (c *modelCall) of(t api.Term) thing {
	if t.Global {
		return c.run.globals[t.Var]
	}
	return c.has[t.Var]
}

// lies is how many bytes on a place is.
func (c *modelCall) lies(t api.Term) int {
	if len(t.Kids) == 0 {
		return t.Field
	}
	x := c.reckon(t.Kids[0])
	n := t.Len
	if n < 0 {
		n = c.of(t).count
	}
	if int64(x) >= int64(n) {
		c.run.stop(api.EndTrap, api.TrapBounds)
	}
	return t.Field + int(x)*bytesOf(api.Type{Kind: t.Elem}, nil)
}

func (c *modelCall) alu(op int, a, b uint32) uint32 {
	x, trap := word.Alu(op, a, b)
	if trap != 0 {
		c.run.stop(api.EndTrap, trap)
	}
	return x
}

func truth(b bool) uint32 {
	if b {
		return 1
	}
	return 0
}

func (c *modelCall) assign(t api.Term) uint32 {
	c.run.pay()
	at := c.lies(t.Kids[0])
	old := word.Conv(t.Mid, c.of(t.Kids[0]).load(at, t.Kids[0].Elem))
	x := c.reckon(t.Kids[1])
	if t.Op != 0 {
		x = c.alu(t.Op, old, x)
	}
	x = word.Conv(t.Type, x)
	c.of(t.Kids[0]).store(at, t.Kids[0].Elem, x)
	return x
}

func (c *modelCall) calls(t api.Term) uint32 {
	scalars, things := make([]uint32, len(t.Kids)), make([]thing, len(t.Kids))
	for i, k := range t.Kids {
		switch k.Kind {
		case api.TermArray, api.TermStruct:
			x := c.of(k)
			x.from += k.Field
			if k.Len >= 0 {
				x.count = k.Len
			}
			things[i] = x
		default:
			scalars[i] = c.reckon(k)
		}
	}
	return c.run.call(t.Func, scalars, things)
}

func (c *modelCall) get() uint32 {
	at := c.run.end.Used
	if at >= len(c.run.input) {
		return 0xFFFFFFFF
	}
	c.run.end.Used = at + 1
	return uint32(c.run.input[at])
}

func (c *modelCall) reckon(t api.Term) uint32 {
	c.run.pay()
	switch t.Kind {
	case api.TermConst:
		return uint32(t.Imm)
	case api.TermPlace:
		at := c.lies(t)
		return c.of(t).load(at, t.Elem)
	case api.TermAssign:
		return c.assign(t)
	case api.TermConv:
		return word.Conv(t.Type, c.reckon(t.Kids[0]))
	case api.TermAlu:
		a := c.reckon(t.Kids[0])
		b := c.reckon(t.Kids[1])
		return c.alu(t.Op, a, b)
	case api.TermAnd:
		return truth(c.reckon(t.Kids[0]) != 0 && c.reckon(t.Kids[1]) != 0)
	case api.TermOr:
		return truth(c.reckon(t.Kids[0]) != 0 || c.reckon(t.Kids[1]) != 0)
	case api.TermCond:
		if c.reckon(t.Kids[0]) != 0 {
			return c.reckon(t.Kids[1])
		}
		return c.reckon(t.Kids[2])
	case api.TermGet:
		return c.get()
	case api.TermPut:
		c.run.end.Out += string([]byte{byte(c.reckon(t.Kids[0]))})
		return 0
	case api.TermCall:
		return c.calls(t)
	}
	panic("no expression")
}

// part reckons a part of a TermFor.
func (c *modelCall) part(t api.Term) uint32 {
	if t.Kind == api.TermNone {
		return 1
	}
	return c.reckon(t)
}

func (c *modelCall) loop(t api.Term) (int, uint32) {
	test, body, step := t.Kids[0], t.Kids[1%len(t.Kids)], api.Term{Kind: api.TermNone}
	switch t.Kind {
	case api.TermDo:
		body, test = t.Kids[0], t.Kids[1]
	case api.TermFor:
		c.part(t.Kids[0])
		test, step, body = t.Kids[1], t.Kids[2], t.Kids[3]
	}
	for first := true; ; first = false {
		if (t.Kind != api.TermDo || !first) && c.part(test) == 0 {
			return onward, 0
		}
		how, v := c.do(body)
		if how == broken {
			return onward, 0
		}
		if how == returned {
			return returned, v
		}
		c.part(step)
	}
}

func (c *modelCall) declare(t api.Term) {
	v := c.vars[t.Var].Type
	x := c.has[t.Var]
	for i := range *x.cells {
		(*x.cells)[i] = 0
	}
	kind := v.Kind
	if kind == api.TypeArray {
		kind = v.Elem
	}
	for i, k := range t.Kids {
		x.store(i*bytesOf(api.Type{Kind: kind}, nil), kind, c.reckon(k))
	}
}

func (c *modelCall) do(t api.Term) (int, uint32) {
	c.run.pay()
	switch t.Kind {
	case api.TermBlock:
		for _, k := range t.Kids {
			if how, v := c.do(k); how != onward {
				return how, v
			}
		}
	case api.TermEval:
		c.reckon(t.Kids[0])
	case api.TermDecl:
		c.declare(t)
	case api.TermIf:
		if c.reckon(t.Kids[0]) != 0 {
			return c.do(t.Kids[1])
		}
		if len(t.Kids) == 3 {
			return c.do(t.Kids[2])
		}
	case api.TermWhile, api.TermDo, api.TermFor:
		return c.loop(t)
	case api.TermBreak:
		return broken, 0
	case api.TermContinue:
		return continued, 0
	case api.TermReturn:
		if len(t.Kids) == 0 {
			return returned, 0
		}
		return returned, c.reckon(t.Kids[0])
	}
	return onward, 0
}

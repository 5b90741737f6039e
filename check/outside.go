package check

import (
	"slices"
	"strings"

	"crucible/api"
	"crucible/types"
)

// outside goes through all that stands outside of functions' bodies.
func (c *checker) outside(items []api.Node) {
	for i := range items {
		n := &items[i]
		switch n.Kind {
		case api.NodeStruct:
			c.run(func() { c.structure(n) })
		case api.NodeVars:
			c.run(func() { c.variables(n, c.global) })
		case api.NodeFunc:
			c.run(func() { c.head(n) })
		}
	}
}

func (c *checker) structure(n *api.Node) {
	var members []api.Member
	member := func(v *api.Node, t api.Type) step {
		return func() {
			if !types.Scalar(t) && t.Kind != api.TypeArray {
				c.wrong(v)
				return
			}
			members = append(members, api.Member{Name: v.Str, Type: t})
		}
	}
	var steps []step
	for i := range n.Kids {
		steps = append(steps, func() { c.variables(&n.Kids[i], member) })
	}
	c.next(append(steps, func() { c.addRecord(n, members) })...)
}

func (c *checker) addRecord(n *api.Node, members []api.Member) {
	if _, ok := c.structs[n.Str]; ok {
		c.wrong(n)
		return
	}
	r, err := types.Layout(n.Str, members)
	switch err {
	case api.OK:
		c.structs[r.Name] = len(c.records)
		c.records = append(c.records, r)
	case api.ErrLong:
		c.limit(n)
	default:
		c.wrong(n)
	}
}

// global has a global made of a variable whose shape is right.
func (c *checker) global(n *api.Node, t api.Type) step {
	return func() {
		base := len(c.terms)
		c.next(c.initial(n, t), func() {
			begin := c.bytesOf(base)
			if c.taken(n.Str) || c.names.Declare(n.Str, len(c.globals)) != api.OK {
				c.wrong(n)
				return
			}
			c.addGlobal(n.Str, t, begin)
		})
	}
}

// taken tells whether a function has the name.
func (c *checker) taken(name string) bool {
	_, ok := c.numbers[name]
	return ok
}

// bytesOf are the bytes of the constants behind the first so many terms, which are no longer waiting.
func (c *checker) bytesOf(base int) []byte {
	var l []byte
	for _, o := range c.terms[base:] {
		l = append(l, byte(o.bits))
		if o.term.Type != api.TypeChar {
			l = append(l, byte(o.bits>>8), byte(o.bits>>16), byte(o.bits>>24))
		}
	}
	c.terms = c.terms[:base]
	return l
}

// addGlobal adds a variable that begins with some bytes.
func (c *checker) addGlobal(name string, t api.Type, begin []byte) {
	if slices.ContainsFunc(begin, func(b byte) bool { return b != 0 }) {
		c.fills = append(c.fills, api.Fill{At: len(c.globals), Bytes: string(begin)})
	}
	c.globals = append(c.globals, api.Var{Name: name, Type: t})
}

// head adds a function, whose body is left for later.
func (c *checker) head(n *api.Node) {
	f := function{node: n, globals: len(c.globals), records: len(c.records)}
	result, ok := c.typeOf(&n.Kids[0])
	if !ok {
		return
	}
	if !types.Scalar(result) && result.Kind != api.TypeVoid {
		c.wrong(&n.Kids[0])
		return
	}
	for i := range n.Kids[1 : len(n.Kids)-1] {
		if !c.parameter(&f, &n.Kids[1+i]) {
			return
		}
	}
	f.Name, f.Result, f.Params = strings.Clone(n.Str), result.Kind, len(f.Vars)
	_, known := c.names.Find(n.Str)
	switch {
	case known || c.taken(n.Str):
		c.wrong(n)
	case len(c.functions) == api.MaxFuncs, f.Params > api.MaxParams:
		c.limit(n)
	default:
		c.numbers[f.Name] = len(c.functions)
		c.functions = append(c.functions, f)
	}
}

// parameter adds one to a function; false: it is wrong, which is told.
func (c *checker) parameter(f *function, n *api.Node) bool {
	t, ok := c.typeOf(&n.Kids[0])
	if !ok {
		return false
	}
	t, ok = shapeOf(n, t)
	same := func(v api.Var) bool { return v.Name == n.Str }
	switch {
	case !ok, slices.ContainsFunc(f.Vars, same):
		c.wrong(n)
		return false
	case len(f.Vars) == api.MaxLocals:
		c.limit(n)
		return false
	}
	f.Vars = append(f.Vars, api.Var{Name: strings.Clone(n.Str), Type: t})
	return true
}

// shapeOf is a parameter's type, of the type that is written there; false: none may be so.
func shapeOf(n *api.Node, t api.Type) (api.Type, bool) {
	switch {
	case n.Num == 1:
		return api.Type{Kind: api.TypeRefStruct, Struct: t.Struct}, t.Kind == api.TypeStruct
	case n.Flag:
		return api.Type{Kind: api.TypeRefArray, Elem: t.Kind}, types.Scalar(t)
	}
	return t, types.Scalar(t)
}

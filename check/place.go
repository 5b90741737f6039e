package check

import (
	"crucible/api"
	"crucible/types"
)

// local is the number by which the names know a function's variable: globals have theirs from 0 on.
func local(no int) int { return -1 - no }

// variable is which variable a name is, and its type.
func (c *checker) variable(name string) (api.Term, api.Type, bool) {
	id, ok := c.names.Find(name)
	switch {
	case !ok:
		return api.Term{}, api.Type{}, false
	case id < 0:
		no := local(id)
		return api.Term{Var: no}, c.inside.Vars[no].Type, true
	case c.inside != nil && id >= c.inside.globals:
		return api.Term{}, api.Type{}, false
	}
	return api.Term{Var: id, Global: true}, c.globals[id].Type, true
}

// spot is where a variable, or a struct's member, lies, and its type.
func (c *checker) spot(n *api.Node) (api.Term, api.Type, bool) {
	switch n.Kind {
	case api.NodeName:
		return c.variable(n.Str)
	case api.NodeField:
		return c.member(n, api.TypeStruct)
	case api.NodeArrow:
		return c.member(n, api.TypeRefStruct)
	}
	return api.Term{}, api.Type{}, false
}

// member is that of a variable of a kind of type.
func (c *checker) member(n *api.Node, kind int) (api.Term, api.Type, bool) {
	what := &n.Kids[0]
	if what.Kind != api.NodeName {
		return api.Term{}, api.Type{}, false
	}
	t, whole, ok := c.variable(what.Str)
	if !ok || whole.Kind != kind {
		return api.Term{}, api.Type{}, false
	}
	r := c.records[whole.Struct]
	i := types.Find(r, n.Str)
	if i < 0 {
		return api.Term{}, api.Type{}, false
	}
	t.Field = r.Members[i].At
	return t, r.Members[i].Type, true
}

// array is where an array lies, its elements' type and how many there are.
func (c *checker) array(n *api.Node) (api.Term, bool) {
	t, whole, ok := c.spot(n)
	if !ok {
		return api.Term{}, false
	}
	switch whole.Kind {
	case api.TypeArray:
		t.Len = whole.Len
	case api.TypeRefArray:
		t.Len = -1
	default:
		return api.Term{}, false
	}
	t.Elem = whole.Elem
	return t, true
}

// single pushes a place without an index.
func (c *checker) single(n *api.Node) {
	t, whole, ok := c.spot(n)
	if !ok || !types.Scalar(whole) {
		c.noPlace(n)
		return
	}
	t.Kind, t.Type, t.Elem = api.TermPlace, whole.Kind, whole.Kind
	c.push(operand{term: t})
}

// element pushes a place with an index.
func (c *checker) element(n *api.Node) {
	t, ok := c.array(&n.Kids[0])
	if !ok {
		c.noPlace(n)
		return
	}
	t.Kind, t.Type = api.TermPlace, t.Elem
	c.composed(t, c.value(&n.Kids[1]))
}

func (c *checker) noPlace(n *api.Node) {
	if n.Kind == api.NodeName {
		c.wrong(n)
		return
	}
	c.unfit(&n.Kids[0], n)
}

// unfit tells that something is wrong, since one of its parts, or it itself, is not what is needed there; ahead of that comes what is wrong within that part.
func (c *checker) unfit(part, whole *api.Node) {
	if _, _, ok := c.spot(part); ok {
		c.wrong(whole)
		return
	}
	c.next(c.expression(part), func() { c.wrong(whole) })
}

package check

import (
	"strings"

	"crucible/api"
	"crucible/types"
)

// expression has a term made of an expression, which may be void.
func (c *checker) expression(n *api.Node) step {
	return func() { c.express(n) }
}

// value likewise, of one whose value is needed.
func (c *checker) value(n *api.Node) step {
	return func() {
		c.next(c.expression(n), func() {
			if c.terms[len(c.terms)-1].term.Type == api.TypeVoid {
				c.wrong(n)
			}
		})
	}
}

// scalar likewise, of one that is converted to a type; outside of functions it is a constant.
func (c *checker) scalar(n *api.Node, kind int) step {
	return func() {
		c.next(c.value(n), func() {
			o := converted(c.pop(), kind)
			if c.inside == nil && o.known != fixed {
				c.wrong(n)
			}
			c.push(o)
		})
	}
}

func (c *checker) express(n *api.Node) {
	switch n.Kind {
	case api.NodeNumber:
		c.push(number(n))
	case api.NodeChar:
		c.push(constant(api.TypeInt, n.Num))
	case api.NodeName, api.NodeField, api.NodeArrow:
		c.single(n)
	case api.NodeIndex:
		c.element(n)
	case api.NodeCall:
		c.call(n)
	case api.NodeUnary:
		c.unary(n)
	case api.NodeBinary, api.NodeLogical:
		c.two(n)
	case api.NodeCond:
		c.conditional(n)
	case api.NodeAssign:
		c.assign(n)
	case api.NodeCast:
		c.cast(n)
	case api.NodeSizeof:
		c.sizeof(n)
	default:
		// A string is no value, wherever one is looked for.
		c.wrong(n)
	}
}

func number(n *api.Node) operand {
	if n.Flag {
		return constant(api.TypeUint, n.Num)
	}
	return constant(api.TypeInt, n.Num)
}

func (c *checker) unary(n *api.Node) {
	if n.Str == "&" {
		c.wrong(n)
		return
	}
	c.next(c.value(&n.Kids[0]), func() { c.push(unary(n.Str, c.pop())) })
}

func (c *checker) two(n *api.Node) {
	c.next(c.value(&n.Kids[0]), c.value(&n.Kids[1]), func() {
		a, b := c.popTwo()
		if n.Kind == api.NodeLogical {
			c.push(logical(n.Str, a, b))
			return
		}
		c.push(binary(n.Str, a, b))
	})
}

func (c *checker) conditional(n *api.Node) {
	c.next(c.value(&n.Kids[0]), c.value(&n.Kids[1]), c.value(&n.Kids[2]), func() {
		yes, no := c.popTwo()
		c.push(conditional(c.pop(), yes, no))
	})
}

func (c *checker) assign(n *api.Node) {
	c.next(c.expression(&n.Kids[0]), c.value(&n.Kids[1]), func() {
		place, value := c.popTwo()
		c.push(assignment(strings.TrimSuffix(n.Str, "="), place, value))
	})
}

func (c *checker) cast(n *api.Node) {
	t, ok := c.typeOf(&n.Kids[0])
	if !ok {
		return
	}
	if !types.Scalar(t) {
		c.wrong(&n.Kids[0])
		return
	}
	c.next(c.value(&n.Kids[1]), func() { c.push(converted(c.pop(), t.Kind)) })
}

func (c *checker) sizeof(n *api.Node) {
	what := &n.Kids[0]
	if what.Kind == api.NodeType {
		if t, ok := c.typeOf(what); ok {
			c.pushSize(n, t)
		}
		return
	}
	// Asked of what lies there: an array or a struct has a size, but is no value.
	_, t, ok := c.spot(what)
	if _, err := types.Size(t, c.records); ok && err == api.OK {
		c.pushSize(n, t)
		return
	}
	c.next(c.expression(what), func() { c.pushSize(n, api.Type{Kind: c.pop().term.Type}) })
}

// pushSize pushes the size of a type, for which a NodeSizeof asks.
func (c *checker) pushSize(n *api.Node, t api.Type) {
	size, err := types.Size(t, c.records)
	if err != api.OK {
		c.wrong(n)
		return
	}
	c.push(constant(api.TypeUint, uint32(size)))
}

// typeOf is the type of a NodeType; false: there is no such struct, which is told.
func (c *checker) typeOf(n *api.Node) (api.Type, bool) {
	switch n.Str {
	case "void":
		return api.Type{Kind: api.TypeVoid}, true
	case "int":
		return api.Type{Kind: api.TypeInt}, true
	case "uint":
		return api.Type{Kind: api.TypeUint}, true
	case "char":
		return api.Type{Kind: api.TypeChar}, true
	}
	no, ok := c.record(strings.TrimPrefix(n.Str, "struct "))
	if !ok {
		c.wrong(n)
		return api.Type{}, false
	}
	return api.Type{Kind: api.TypeStruct, Struct: no}, true
}

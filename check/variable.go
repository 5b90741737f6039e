package check

import (
	"crucible/api"
	"crucible/types"
)

// variables goes through a NodeVars: each variable whose shape is right is handed on with its type.
func (c *checker) variables(n *api.Node, use func(n *api.Node, t api.Type) step) {
	of, ok := c.typeOf(&n.Kids[0])
	if !ok {
		return
	}
	var steps []step
	for i := range n.Kids[1:] {
		steps = append(steps, func() { c.shape(&n.Kids[1+i], of, use) })
	}
	c.next(steps...)
}

// shape looks at a variable's type and length.
func (c *checker) shape(n *api.Node, of api.Type, use func(n *api.Node, t api.Type) step) {
	if of.Kind == api.TypeVoid || n.Flag && !types.Scalar(of) {
		c.wrong(n)
		return
	}
	if !n.Flag {
		c.next(use(n, of))
		return
	}
	array := func(length int) step {
		return use(n, api.Type{Kind: api.TypeArray, Elem: of.Kind, Len: length})
	}
	if n.Kids[0].Kind == api.NodeNone {
		c.countedLength(n, array)
		return
	}
	c.writtenLength(&n.Kids[0], array)
}

// countedLength is an array's whose initial value says it.
func (c *checker) countedLength(n *api.Node, use func(length int) step) {
	length := 0
	if value := initialOf(n); value != nil {
		switch value.Kind {
		case api.NodeList:
			length = len(value.Kids)
		case api.NodeString:
			length = len(value.Str) + 1
		}
	}
	switch {
	case length == 0:
		c.wrong(n)
	case length > api.MaxArray:
		c.limit(n)
	default:
		c.next(use(length))
	}
}

// writtenLength is an array's that stands there as an expression.
func (c *checker) writtenLength(n *api.Node, use func(length int) step) {
	c.next(c.value(n), func() {
		o := c.pop()
		length := int(int32(o.bits))
		if o.term.Type == api.TypeUint {
			length = int(o.bits)
		}
		switch {
		case o.known != fixed || length < 1:
			c.wrong(n)
		case length > api.MaxArray:
			c.limit(n)
		default:
			c.next(use(length))
		}
	})
}

// initialOf is a variable's initial value; nil: it has none.
func initialOf(n *api.Node) *api.Node {
	at := 0
	if n.Flag {
		at = 1
	}
	if at == len(n.Kids) {
		return nil
	}
	return &n.Kids[at]
}

// initial has terms made of a variable's initial value: one for each scalar of it.
func (c *checker) initial(n *api.Node, t api.Type) step {
	return func() {
		value := initialOf(n)
		switch {
		case value == nil:
		case types.Scalar(t):
			c.next(c.scalar(value, t.Kind))
		case value.Kind == api.NodeList:
			c.list(value, t)
		case value.Kind == api.NodeString && t.Elem == api.TypeChar && len(value.Str) < t.Len:
			for i := range len(value.Str) {
				c.push(constant(api.TypeChar, uint32(value.Str[i])))
			}
		default:
			c.unfit(value, value)
		}
	}
}

func (c *checker) list(n *api.Node, t api.Type) {
	var steps []step
	for i := range n.Kids {
		steps = append(steps, c.scalar(&n.Kids[i], t.Elem))
	}
	c.next(append(steps, func() {
		if len(n.Kids) > t.Len {
			c.wrong(n)
		}
	})...)
}

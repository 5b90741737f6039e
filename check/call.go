package check

import "crucible/api"

func (c *checker) call(n *api.Node) {
	switch n.Str {
	case "getbyte":
		c.get(n)
		return
	case "putbyte":
		c.put(n)
		return
	}
	no, ok := c.function(n.Str)
	if !ok {
		c.wrong(n)
		return
	}
	f := &c.functions[no]
	if len(n.Kids) != f.Params {
		c.wrong(n)
		return
	}
	var arguments []step
	for i := range n.Kids {
		arguments = append(arguments, c.argument(&n.Kids[i], f.Vars[i].Type))
	}
	c.composed(api.Term{Kind: api.TermCall, Type: f.Result, Func: no}, arguments...)
}

// function is which function a name is, where it stands.
func (c *checker) function(name string) (int, bool) {
	if _, _, hidden := c.variable(name); hidden || c.inside == nil {
		return 0, false
	}
	no, ok := c.numbers[name]
	return no, ok
}

func (c *checker) get(n *api.Node) {
	if len(n.Kids) != 0 {
		c.wrong(n)
		return
	}
	c.push(operand{term: api.Term{Kind: api.TermGet, Type: api.TypeInt}})
}

func (c *checker) put(n *api.Node) {
	if len(n.Kids) != 1 {
		c.wrong(n)
		return
	}
	c.composed(api.Term{Kind: api.TermPut}, c.value(&n.Kids[0]), func() { c.push(promoted(c.pop())) })
}

// argument has a term made of what is handed on for a parameter.
func (c *checker) argument(n *api.Node, t api.Type) step {
	switch t.Kind {
	case api.TypeRefArray:
		return func() { c.arrayArgument(n, t.Elem) }
	case api.TypeRefStruct:
		return func() { c.structArgument(n, t.Struct) }
	}
	return c.scalar(n, t.Kind)
}

func (c *checker) arrayArgument(n *api.Node, elem int) {
	if n.Kind == api.NodeString && elem == api.TypeChar {
		c.text(n)
		return
	}
	t, ok := c.array(n)
	if !ok || t.Elem != elem {
		c.unfit(n, n)
		return
	}
	t.Kind = api.TermArray
	c.push(operand{term: t})
}

// text pushes an argument that is a string: a global of its own.
func (c *checker) text(n *api.Node) {
	length := len(n.Str) + 1
	if length > api.MaxArray {
		c.limit(n)
		return
	}
	no := len(c.globals)
	c.addGlobal("", api.Type{Kind: api.TypeArray, Elem: api.TypeChar, Len: length}, append([]byte(n.Str), 0))
	c.push(operand{term: api.Term{Kind: api.TermArray, Var: no, Global: true, Elem: api.TypeChar, Len: length}})
}

func (c *checker) structArgument(n *api.Node, record int) {
	name, kind := n, api.TypeRefStruct
	if n.Kind == api.NodeUnary && n.Str == "&" {
		name, kind = &n.Kids[0], api.TypeStruct
	}
	wanted := api.Type{Kind: kind, Struct: record}
	if name.Kind == api.NodeName {
		if t, whole, ok := c.variable(name.Str); ok && whole == wanted {
			t.Kind = api.TermStruct
			c.push(operand{term: t})
			return
		}
	}
	c.unfit(n, n)
}

package check

import (
	"slices"
	"strings"

	"crucible/api"
	"crucible/types"
)

// bodies goes through the functions' bodies.
func (c *checker) bodies() {
	for i := range c.functions {
		if c.stopped() {
			return
		}
		c.body(&c.functions[i])
	}
}

func (c *checker) body(f *function) {
	c.inside = f
	c.record = c.recordsAhead(f.records)
	c.names.Enter()
	for i, v := range f.Vars {
		c.names.Declare(v.Name, local(i))
	}
	c.run(func() { c.block(&f.node.Kids[len(f.node.Kids)-1], func() { c.endBody(f) }) })
	c.names.Leave()
}

// recordsAhead looks for structs where so many are known.
func (c *checker) recordsAhead(count int) func(name string) (int, bool) {
	return func(name string) (int, bool) {
		no, ok := c.structs[name]
		return no, ok && no < count
	}
}

func (c *checker) endBody(f *function) {
	f.Body = c.pop().term
	if f.Result != api.TypeVoid && !Ends(f.Body) {
		c.wrong(f.node)
		return
	}
	if c.frameOf(f) > api.MaxFrame {
		c.limit(f.node)
	}
}

// frameOf is how many bytes a function's variables have, each as a multiple of 4; references have none.
func (c *checker) frameOf(f *function) int {
	bytes := 0
	for _, v := range f.Vars {
		if size, err := types.Size(v.Type, c.records); err == api.OK {
			bytes += (size + 3) / 4 * 4
		}
	}
	return bytes
}

// block has a TermBlock made of a NodeBlock's statements; the names of its variables go to the innermost block.
func (c *checker) block(n *api.Node, end step) {
	var steps []step
	for i := range n.Kids {
		steps = append(steps, c.statement(&n.Kids[i]))
	}
	c.next(func() { c.composed(api.Term{Kind: api.TermBlock}, steps...) }, end)
}

// innerBlock is one within a function's body.
func (c *checker) innerBlock(n *api.Node) {
	declares := func(k api.Node) bool { return k.Kind == api.NodeVars }
	if !slices.ContainsFunc(n.Kids, declares) {
		// The names need not know of it: they would be asked block by block, and a tree may have very many.
		c.block(n, func() {})
		return
	}
	c.names.Enter()
	c.block(n, func() { c.names.Leave() })
}

// statement has terms made of a statement, or of a NodeVars.
func (c *checker) statement(n *api.Node) step {
	return func() { c.state(n) }
}

func (c *checker) state(n *api.Node) {
	switch n.Kind {
	case api.NodeVars:
		c.variables(n, c.localVariable)
	case api.NodeBlock:
		c.innerBlock(n)
	case api.NodeEval:
		c.composed(api.Term{Kind: api.TermEval}, c.expression(&n.Kids[0]))
	case api.NodeIf:
		c.choice(n)
	case api.NodeWhile:
		c.composed(api.Term{Kind: api.TermWhile}, c.value(&n.Kids[0]), c.round(&n.Kids[1]))
	case api.NodeDo:
		c.composed(api.Term{Kind: api.TermDo}, c.round(&n.Kids[0]), c.value(&n.Kids[1]))
	case api.NodeFor:
		c.counting(n)
	case api.NodeBreak:
		c.leap(n, api.TermBreak)
	case api.NodeContinue:
		c.leap(n, api.TermContinue)
	case api.NodeReturn:
		c.giveBack(n)
	case api.NodeNone:
		c.push(operand{term: api.Term{Kind: api.TermNone}})
	}
}

func (c *checker) choice(n *api.Node) {
	steps := []step{c.value(&n.Kids[0])}
	for i := range n.Kids[1:] {
		steps = append(steps, c.statement(&n.Kids[1+i]))
	}
	c.composed(api.Term{Kind: api.TermIf}, steps...)
}

func (c *checker) counting(n *api.Node) {
	// Nobody asks for the values of the first part and the step: they may be void.
	first := c.perhaps(&n.Kids[0], c.expression)
	test := c.perhaps(&n.Kids[1], c.value)
	each := c.perhaps(&n.Kids[2], c.expression)
	c.composed(api.Term{Kind: api.TermFor}, first, test, each, c.round(&n.Kids[3]))
}

// perhaps is what is to be done with a part of a NodeFor, which may not be there.
func (c *checker) perhaps(n *api.Node, part func(*api.Node) step) step {
	if n.Kind == api.NodeNone {
		return c.statement(n)
	}
	return part(n)
}

// round is a loop's body.
func (c *checker) round(n *api.Node) step {
	return func() {
		c.loops++
		c.next(c.statement(n), func() { c.loops-- })
	}
}

func (c *checker) leap(n *api.Node, kind int) {
	if c.loops == 0 {
		c.wrong(n)
		return
	}
	c.push(operand{term: api.Term{Kind: kind}})
}

func (c *checker) giveBack(n *api.Node) {
	told, void := len(n.Kids) > 0, c.inside.Result == api.TypeVoid
	switch {
	case told && void:
		c.next(c.expression(&n.Kids[0]), func() { c.wrong(n) })
	case told:
		c.composed(api.Term{Kind: api.TermReturn}, c.scalar(&n.Kids[0], c.inside.Result))
	case void:
		c.composed(api.Term{Kind: api.TermReturn})
	default:
		c.wrong(n)
	}
}

// localVariable has a TermDecl made of a function's variable whose shape is right.
func (c *checker) localVariable(n *api.Node, t api.Type) step {
	return func() {
		base := len(c.terms)
		c.next(c.initial(n, t), func() {
			no := len(c.inside.Vars)
			if c.names.Declare(n.Str, local(no)) != api.OK {
				c.wrong(n)
				return
			}
			if no == api.MaxLocals {
				c.limit(n)
				return
			}
			c.inside.Vars = append(c.inside.Vars, api.Var{Name: strings.Clone(n.Str), Type: t})
			kids := c.takenTerms(base)
			c.push(operand{term: api.Term{Kind: api.TermDecl, Var: no, Kids: kids}})
		})
	}
}

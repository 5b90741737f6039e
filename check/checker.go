package check

import (
	"crucible/api"
	"crucible/scope"
)

// A step is something that is still to be done. Steps wait in a list and do not call one another: a tree may be as deep as it has nodes.
type step func()

// checker goes through a program's tree.
type checker struct {
	records   []api.Record
	structs   map[string]int // which of records has a name
	globals   []api.Var
	fills     []api.Fill // At is which global, till all have their places
	functions []function
	numbers   map[string]int // which of functions has a name
	main      int

	names  *scope.Scope                  // variables: globals by their numbers, others as local says
	record func(name string) (int, bool) // looks for a struct that is known here
	inside *function                     // whose body is gone through; nil: none
	loops  int                           // how many are around

	todo  []step    // the next one last
	terms []operand // those that are still to become parts of others
	diag  api.Diag
}

// function is one whose head was gone through.
type function struct {
	api.Routine
	node    *api.Node
	globals int // how many stand ahead of it
	records int // likewise
}

func newChecker() *checker {
	c := &checker{structs: map[string]int{}, numbers: map[string]int{}, names: scope.New()}
	c.record = func(name string) (int, bool) {
		no, ok := c.structs[name]
		return no, ok
	}
	return c
}

// run does a step, and all that comes of it.
func (c *checker) run(first step) {
	c.next(first)
	for len(c.todo) > 0 {
		last := len(c.todo) - 1
		do := c.todo[last]
		c.todo = c.todo[:last]
		do()
	}
}

// next has steps done in their order, ahead of all that is still to be done.
func (c *checker) next(steps ...step) {
	if c.stopped() {
		return
	}
	for i := len(steps) - 1; i >= 0; i-- {
		c.todo = append(c.todo, steps[i])
	}
}

// tell stops all with the first thing that is wrong.
func (c *checker) tell(kind, at int) {
	if c.stopped() {
		return
	}
	c.diag = api.Diag{Kind: kind, At: at}
	c.todo = nil
}

func (c *checker) stopped() bool { return c.diag.Kind != 0 }

func (c *checker) wrong(n *api.Node) { c.tell(api.DiagType, n.Pos) }

func (c *checker) limit(n *api.Node) { c.tell(api.DiagLimit, n.Pos) }

func (c *checker) push(o operand) { c.terms = append(c.terms, o) }

func (c *checker) pop() operand {
	last := len(c.terms) - 1
	o := c.terms[last]
	c.terms = c.terms[:last]
	return o
}

// popTwo is the last but one, and the last.
func (c *checker) popTwo() (operand, operand) {
	b := c.pop()
	return c.pop(), b
}

// composed has a term made, whose kids are what the steps make.
func (c *checker) composed(t api.Term, steps ...step) {
	base := len(c.terms)
	c.next(append(steps, func() {
		t.Kids = c.takenTerms(base)
		c.push(operand{term: t})
	})...)
}

// takenTerms are the terms behind the first so many, which are no longer waiting.
func (c *checker) takenTerms(base int) []api.Term {
	var l []api.Term
	for _, o := range c.terms[base:] {
		l = append(l, o.term)
	}
	c.terms = c.terms[:base]
	return l
}

package parser

import "crucible/api"

func (r *reader) block() {
	r.begin(api.NodeBlock)
	r.take("{")
	r.then((*reader).inBlock, (*reader).finish)
}

// inBlock reads what is in a block, up to its end.
func (r *reader) inBlock() {
	switch word := r.sign(); {
	case word == "}":
		r.skip()
	case isType(word):
		r.then((*reader).variables, (*reader).inBlock)
	default:
		r.then((*reader).statement, (*reader).inBlock)
	}
}

func (r *reader) statement() {
	r.then(statementOf(r.sign()))
}

// statementOf is how a statement is read that begins with a mark or a word.
func statementOf(sign string) step {
	switch sign {
	case "{":
		return (*reader).block
	case ";":
		return (*reader).none
	case "if":
		return (*reader).branch
	case "while":
		return (*reader).while
	case "do":
		return (*reader).do
	case "for":
		return (*reader).loop
	case "break":
		return (*reader).breaking
	case "continue":
		return (*reader).continuing
	case "return":
		return (*reader).returning
	}
	return (*reader).eval
}

func (r *reader) none() {
	r.leaf(api.Node{Kind: api.NodeNone})
}

func (r *reader) eval() {
	r.begin(api.NodeEval)
	r.then((*reader).expression, (*reader).semicolon, (*reader).finish)
}

func (r *reader) branch() {
	r.begin(api.NodeIf)
	r.take("if")
	r.then((*reader).test, (*reader).statement, (*reader).otherwise, (*reader).finish)
}

// otherwise reads an else: the innermost if asks for it first.
func (r *reader) otherwise() {
	if r.sign() == "else" {
		r.skip()
		r.then((*reader).statement)
	}
}

// test reads an expression between parentheses that are no part of it.
func (r *reader) test() {
	r.take("(")
	r.then((*reader).expression, (*reader).closeParen)
}

func (r *reader) while() {
	r.begin(api.NodeWhile)
	r.take("while")
	r.then((*reader).test, (*reader).statement, (*reader).finish)
}

func (r *reader) do() {
	r.begin(api.NodeDo)
	r.take("do")
	r.then((*reader).statement, (*reader).until, (*reader).semicolon, (*reader).finish)
}

// until reads the test of a do.
func (r *reader) until() {
	r.take("while")
	r.test()
}

func (r *reader) loop() {
	r.begin(api.NodeFor)
	r.take("for")
	r.take("(")
	r.then((*reader).perhaps, (*reader).semicolon, (*reader).perhaps, (*reader).semicolon, (*reader).perhaps, (*reader).closeParen, (*reader).statement, (*reader).finish)
}

func (r *reader) breaking() {
	r.alone(api.NodeBreak)
}

func (r *reader) continuing() {
	r.alone(api.NodeContinue)
}

// alone reads a statement that is a word.
func (r *reader) alone(kind int) {
	r.leaf(api.Node{Kind: kind})
	r.semicolon()
}

func (r *reader) returning() {
	r.begin(api.NodeReturn)
	r.take("return")
	r.then((*reader).semicolon, (*reader).finish)
	if r.sign() != ";" {
		r.then((*reader).expression)
	}
}

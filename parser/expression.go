package parser

import "crucible/api"

func (r *reader) expression() {
	r.then((*reader).conditional, (*reader).assignment)
}

func (r *reader) moreExpressions() {
	r.more((*reader).expression, (*reader).moreExpressions)
}

// perhaps reads an expression, or nothing where a mark comes that ends it.
func (r *reader) perhaps() {
	switch r.sign() {
	case ";", ")", "]":
		r.nothing()
	default:
		r.then((*reader).expression)
	}
}

// assignment reads what is assigned to the place that was read.
func (r *reader) assignment() {
	sign := r.sign()
	if !isAssign(sign) {
		return
	}
	if !isPlace(r.done[len(r.done)-1].node.Kind) {
		r.wrong()
	}
	r.beginOver(api.NodeAssign, sign)
	r.skip()
	r.then((*reader).expression, (*reader).finish)
}

func isAssign(sign string) bool {
	switch sign {
	case "=", "+=", "-=", "*=", "/=", "%=", "&=", "|=", "^=", "<<=", ">>=":
		return true
	}
	return false
}

func isPlace(kind int) bool {
	switch kind {
	case api.NodeName, api.NodeIndex, api.NodeField, api.NodeArrow:
		return true
	}
	return false
}

func (r *reader) conditional() {
	r.then((*reader).unary, (*reader).operator, (*reader).choice)
}

// choice reads what a test that was read chooses from.
func (r *reader) choice() {
	if r.sign() != "?" {
		return
	}
	r.beginOver(api.NodeCond, "")
	r.skip()
	r.then((*reader).expression, (*reader).colon, (*reader).conditional, (*reader).finish)
}

func (r *reader) colon() {
	r.take(":")
}

// operators has the signs between two operands, and their levels: the higher one binds the tighter.
var operators = [...]struct {
	sign  string
	level int
}{
	{"||", 2}, {"&&", levelAnd}, {"|", 4}, {"^", 5}, {"&", 6}, {"==", 7}, {"!=", 7},
	{"<", 8}, {">", 8}, {"<=", 8}, {">=", 8}, {"<<", 9}, {">>", 9}, {"+", 10}, {"-", 10}, {"*", 11}, {"/", 11}, {"%", 11},
}

// levelAnd is the highest level of the operators that may leave their second operand alone.
const levelAnd = 3

// levelOf is the level of a sign; 0: it is no operator.
func levelOf(sign string) int {
	for i := range operators {
		if operators[i].sign == sign {
			return operators[i].level
		}
	}
	return 0
}

// operator reads what comes behind an operand: an operator, and the next one.
func (r *reader) operator() {
	sign := r.sign()
	level := levelOf(sign)
	r.finishDownTo(max(level, 1))
	if level == 0 {
		return
	}
	kind := api.NodeBinary
	if level <= levelAnd {
		kind = api.NodeLogical
	}
	r.beginOver(kind, sign)
	r.innermost().level = level
	r.skip()
	r.then((*reader).unary, (*reader).operator)
}

// finishDownTo finishes the operators of a level and above whose last operand was read. (What stands around them all is of level 0.)
func (r *reader) finishDownTo(level int) {
	for len(r.begun) > 0 && r.innermost().level >= level {
		r.finish()
	}
}

func (r *reader) unary() {
	switch sign := r.sign(); sign {
	case "-", "~", "!", "&":
		r.begin(api.NodeUnary)
		r.innermost().node.Str = sign
		r.skip()
		r.then((*reader).unary, (*reader).finish)
	case "sizeof":
		r.begin(api.NodeSizeof)
		r.skip()
		r.then((*reader).measured, (*reader).finish)
	case "(":
		if isType(r.ahead(1)) {
			r.begin(api.NodeCast)
			r.typeInParens()
			r.then((*reader).unary, (*reader).finish)
			return
		}
		r.then((*reader).parens, (*reader).postfix)
	default:
		r.then((*reader).primary, (*reader).postfix)
	}
}

// measured reads what a sizeof is of: a type between parentheses is all of it, never the beginning of a cast.
func (r *reader) measured() {
	if r.sign() == "(" && isType(r.ahead(1)) {
		r.typeInParens()
		return
	}
	r.then((*reader).unary)
}

func (r *reader) typeInParens() {
	r.take("(")
	r.typed()
	r.take(")")
}

// parens reads an expression between parentheses: they make no node of their own, but it starts with them.
func (r *reader) parens() {
	r.begin(0)
	r.skip()
	r.then((*reader).expression, (*reader).closeParen, (*reader).startThere)
}

// startThere lets the expression that was read start where its parentheses do.
func (r *reader) startThere() {
	r.done[len(r.done)-1].start = r.leave().node.Pos
}

func (r *reader) postfix() {
	switch r.sign() {
	case "[":
		r.beginOver(api.NodeIndex, "")
		r.skip()
		r.then((*reader).expression, (*reader).closeBracket, (*reader).finish, (*reader).postfix)
	case ".":
		r.selected(api.NodeField)
	case "->":
		r.selected(api.NodeArrow)
	}
}

// selected reads a field of what was read.
func (r *reader) selected(kind int) {
	r.skip()
	r.beginOver(kind, r.name())
	r.finish()
	r.then((*reader).postfix)
}

func (r *reader) primary() {
	switch t := r.token(); t.Kind {
	case api.TokenNumber:
		r.leaf(api.Node{Kind: api.NodeNumber, Num: t.Num, Flag: t.Uns})
	case api.TokenChar:
		r.leaf(api.Node{Kind: api.NodeChar, Num: t.Num})
	case api.TokenString:
		r.leaf(api.Node{Kind: api.NodeString, Str: t.Text})
	case api.TokenName:
		if r.ahead(1) == "(" {
			r.call()
			return
		}
		r.leaf(api.Node{Kind: api.NodeName, Str: t.Text})
	default:
		if t.Text != "getbyte" && t.Text != "putbyte" {
			r.wrong()
		}
		r.call()
	}
}

func (r *reader) call() {
	r.begin(api.NodeCall)
	r.innermost().node.Str = r.token().Text
	r.skip()
	r.take("(")
	r.then((*reader).closeParen, (*reader).finish)
	if r.sign() != ")" {
		r.then((*reader).expression, (*reader).moreExpressions)
	}
}

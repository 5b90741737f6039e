package ast

import (
	"slices"
	"strconv"
	"strings"

	"crucible/api"
	"crucible/lexer"
)

// Levels of expressions: the higher one binds the tighter.
const (
	levelAssign  = 0
	levelCond    = 1
	levelOr      = 2
	levelAnd     = 3
	levelUnary   = 12
	levelPrimary = 13
)

// level is how tight an expression binds what it is made of.
func level(n *api.Node) int {
	switch n.Kind {
	case api.NodeAssign:
		return levelAssign
	case api.NodeCond:
		return levelCond
	case api.NodeLogical:
		return logicalLevel(n.Str)
	case api.NodeBinary:
		return binaryLevel(n.Str)
	case api.NodeUnary, api.NodeCast, api.NodeSizeof:
		return levelUnary
	}
	return levelPrimary
}

// logicalLevel is the level of a NodeLogical's operator; 0: it is none.
func logicalLevel(op string) int {
	switch op {
	case "||":
		return levelOr
	case "&&":
		return levelAnd
	}
	return 0
}

// binaryLevel is the level of a NodeBinary's operator; 0: it is none.
func binaryLevel(op string) int {
	switch op {
	case "|":
		return 4
	case "^":
		return 5
	case "&":
		return 6
	case "==", "!=":
		return 7
	case "<", ">", "<=", ">=":
		return 8
	case "<<", ">>":
		return 9
	case "+", "-":
		return 10
	case "*", "/", "%":
		return 11
	}
	return 0
}

// piece is a part of a node's text: a text as it is, or a node whose text comes there.
type piece struct {
	text string
	node *api.Node
}

// speller has what is still to be spelt of a text, the next piece last. (Pieces in a list, not calls within calls: a tree may be as deep as it has nodes.)
type speller struct {
	todo []piece
}

// spell is the text of a tree that may be; false: it is too long.
func spell(n *api.Node) (string, bool) {
	var out strings.Builder
	s := speller{todo: []piece{{node: n}}}
	for len(s.todo) > 0 {
		last := len(s.todo) - 1
		next := s.todo[last]
		s.todo = s.todo[:last]
		if next.node != nil {
			s.split(next.node)
			slices.Reverse(s.todo[last:])
			continue
		}
		if len(next.text) > maxText-out.Len() {
			return "", false
		}
		out.WriteString(next.text)
	}
	return out.String(), true
}

// say lays texts as the next pieces of the node that is split.
func (s *speller) say(texts ...string) {
	for _, t := range texts {
		s.todo = append(s.todo, piece{text: t})
	}
}

// put lays a node as the next piece: an expression at level 0.
func (s *speller) put(n *api.Node) {
	s.todo = append(s.todo, piece{node: n})
}

// at lays an expression at a level.
func (s *speller) at(least int, n *api.Node) {
	if level(n) >= least {
		s.put(n)
	} else {
		s.within(n)
	}
}

// within lays a node between parentheses.
func (s *speller) within(n *api.Node) {
	s.say("(")
	s.put(n)
	s.say(")")
}

// list lays nodes with a text between each two.
func (s *speller) list(nodes []api.Node, between string) {
	for i := range nodes {
		if i > 0 && between != "" {
			s.say(between)
		}
		s.put(&nodes[i])
	}
}

// perhaps lays an expression, or nothing where a NodeNone stands for it.
func (s *speller) perhaps(n *api.Node) {
	if n.Kind != api.NodeNone {
		s.put(n)
	}
}

// split lays the pieces that a node is made of, in their order.
func (s *speller) split(n *api.Node) {
	switch {
	case expression(n):
		s.expression(n)
	case statement(n):
		s.statement(n)
	default:
		s.declaration(n)
	}
}

func (s *speller) expression(n *api.Node) {
	kids := n.Kids
	switch n.Kind {
	case api.NodeNumber:
		s.say(number(n))
	case api.NodeChar:
		s.say(character(n.Num))
	case api.NodeString:
		s.say(quoted(n.Str))
	case api.NodeName:
		s.say(n.Str)
	case api.NodeIndex:
		s.at(levelPrimary, &kids[0])
		s.say("[")
		s.put(&kids[1])
		s.say("]")
	case api.NodeField:
		s.at(levelPrimary, &kids[0])
		s.say(".", n.Str)
	case api.NodeArrow:
		s.at(levelPrimary, &kids[0])
		s.say("->", n.Str)
	case api.NodeCall:
		s.say(n.Str, "(")
		s.list(kids, ", ")
		s.say(")")
	default:
		s.operation(n)
	}
}

func (s *speller) operation(n *api.Node) {
	kids := n.Kids
	switch n.Kind {
	case api.NodeUnary:
		s.say(n.Str)
		if kids[0].Kind == api.NodeUnary && kids[0].Str == n.Str {
			s.say(" ")
		}
		s.at(levelUnary, &kids[0])
	case api.NodeCast:
		s.within(&kids[0])
		s.at(levelUnary, &kids[1])
	case api.NodeSizeof:
		s.sizeof(&kids[0])
	case api.NodeBinary, api.NodeLogical:
		s.at(level(n), &kids[0])
		s.say(" ", n.Str, " ")
		s.at(level(n)+1, &kids[1])
	case api.NodeCond:
		s.at(levelOr, &kids[0])
		s.say(" ? ")
		s.put(&kids[1])
		s.say(" : ")
		s.at(levelCond, &kids[2])
	case api.NodeAssign:
		s.at(levelPrimary, &kids[0])
		s.say(" ", n.Str, " ")
		s.put(&kids[1])
	}
}

func (s *speller) sizeof(n *api.Node) {
	s.say("sizeof")
	if n.Kind == api.NodeType {
		s.within(n)
		return
	}
	s.say(" ")
	if n.Kind == api.NodeCast {
		// Without parentheses of its own a cast would be read as a type, and something behind it.
		s.within(n)
		return
	}
	s.at(levelUnary, n)
}

func (s *speller) declaration(n *api.Node) {
	kids := n.Kids
	switch n.Kind {
	case api.NodeProgram:
		s.list(kids, "")
	case api.NodeType:
		s.say(n.Str)
	case api.NodeStruct:
		s.say("struct ", n.Str, " {\n")
		s.list(kids, "")
		s.say("};\n")
	case api.NodeVars:
		s.put(&kids[0])
		s.say(" ")
		s.list(kids[1:], ", ")
		s.say(";\n")
	case api.NodeVar:
		s.variable(n)
	case api.NodeList:
		s.say("{")
		s.list(kids, ", ")
		s.say("}")
	case api.NodeFunc:
		last := len(kids) - 1
		s.put(&kids[0])
		s.say(" ", n.Str, "(")
		s.list(kids[1:last], ", ")
		s.say(") ")
		s.put(&kids[last])
	case api.NodeParam:
		s.parameter(n)
	}
}

func (s *speller) variable(n *api.Node) {
	s.say(n.Str)
	values := n.Kids
	if n.Flag {
		s.say("[")
		s.perhaps(&values[0])
		s.say("]")
		values = values[1:]
	}
	if len(values) > 0 {
		s.say(" = ")
		s.put(&values[0])
	}
}

func (s *speller) parameter(n *api.Node) {
	s.put(&n.Kids[0])
	s.say(" ")
	if n.Num == 1 {
		s.say("*")
	}
	s.say(n.Str)
	if n.Flag {
		s.say("[]")
	}
}

// A statement within another one ends with the newline that ends both.
func (s *speller) statement(n *api.Node) {
	kids := n.Kids
	switch n.Kind {
	case api.NodeBlock:
		s.say("{\n")
		s.list(kids, "")
		s.say("}\n")
	case api.NodeEval:
		s.put(&kids[0])
		s.say(";\n")
	case api.NodeIf:
		s.head("if (", &kids[0])
		s.list(kids[1:], "else\n")
	case api.NodeWhile:
		s.head("while (", &kids[0])
		s.put(&kids[1])
	case api.NodeDo:
		s.say("do\n")
		s.put(&kids[0])
		s.say("while (")
		s.put(&kids[1])
		s.say(");\n")
	case api.NodeFor:
		s.loop(kids)
	case api.NodeBreak:
		s.say("break;\n")
	case api.NodeContinue:
		s.say("continue;\n")
	case api.NodeReturn:
		s.say("return")
		if len(kids) > 0 {
			s.say(" ")
		}
		s.list(kids, "")
		s.say(";\n")
	case api.NodeNone:
		s.say(";\n")
	}
}

// head lays what stands ahead of the statements that a test chooses.
func (s *speller) head(opening string, test *api.Node) {
	s.say(opening)
	s.put(test)
	s.say(")\n")
}

func (s *speller) loop(kids []api.Node) {
	s.say("for (")
	s.perhaps(&kids[0])
	s.say("; ")
	s.perhaps(&kids[1])
	s.say("; ")
	s.perhaps(&kids[2])
	s.say(")\n")
	s.put(&kids[3])
}

func number(n *api.Node) string {
	digits := strconv.FormatUint(uint64(n.Num), 10)
	if n.Flag {
		return digits + "u"
	}
	return digits
}

// character is a byte as a literal.
func character(b uint32) string {
	const digits = "0123456789abcdef"
	return `'\x` + string(digits[b>>4&15]) + string(digits[b&15]) + "'"
}

// quoted is bytes as a string's literal.
func quoted(s string) string {
	if len(s) > maxText {
		// Its literal is longer still: however it were written, the text is too long.
		return s
	}
	return lexer.Quote(s)
}

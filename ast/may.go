package ast

import (
	"slices"
	"strings"

	"crucible/api"
	"crucible/lexer"
)

// may tells whether a node may be, where its kids may.
func may(n *api.Node) bool {
	return strMay(n) && numMay(n) && flagMay(n) && kidsMay(n)
}

func strMay(n *api.Node) bool {
	switch n.Kind {
	case api.NodeString:
		return true
	case api.NodeName, api.NodeField, api.NodeArrow, api.NodeStruct, api.NodeVar, api.NodeFunc, api.NodeParam:
		return isName(n.Str)
	case api.NodeCall:
		return isName(n.Str) || n.Str == "getbyte" || n.Str == "putbyte"
	case api.NodeType:
		return isType(n.Str)
	case api.NodeUnary:
		return isSign(n.Str)
	case api.NodeBinary:
		return binaryLevel(n.Str) != 0
	case api.NodeLogical:
		return logicalLevel(n.Str) != 0
	case api.NodeAssign:
		return isAssign(n.Str)
	}
	return n.Str == ""
}

func numMay(n *api.Node) bool {
	switch n.Kind {
	case api.NodeNumber:
		return n.Num < 1<<31 || n.Flag
	case api.NodeChar:
		return n.Num <= 255
	case api.NodeParam:
		return n.Num == 0 || n.Num == 1 && !n.Flag
	}
	return n.Num == 0
}

func flagMay(n *api.Node) bool {
	switch n.Kind {
	case api.NodeNumber, api.NodeVar, api.NodeParam:
		return true
	}
	return !n.Flag
}

func isName(s string) bool {
	return lexer.Named(s) && !lexer.Reserved(s)
}

func isType(s string) bool {
	switch s {
	case "int", "uint", "char", "void":
		return true
	}
	name, ok := strings.CutPrefix(s, "struct ")
	return ok && isName(name)
}

func isSign(s string) bool {
	switch s {
	case "-", "~", "!", "&":
		return true
	}
	return false
}

func isAssign(s string) bool {
	switch s {
	case "=", "+=", "-=", "*=", "/=", "%=", "&=", "|=", "^=", "<<=", ">>=":
		return true
	}
	return false
}

// ask tells whether a node may stand among another's kids.
type ask func(n *api.Node) bool

// of asks for one of some kinds.
func of(kinds ...int) ask {
	return func(n *api.Node) bool { return slices.Contains(kinds, n.Kind) }
}

// either asks whether one of some asks holds.
func either(asks ...ask) ask {
	return func(n *api.Node) bool {
		for _, holds := range asks {
			if holds(n) {
				return true
			}
		}
		return false
	}
}

// are tells whether there are as many kids as asks, and each ask holds of its kid.
func are(kids []api.Node, asks ...ask) bool {
	if len(kids) != len(asks) {
		return false
	}
	for i, holds := range asks {
		if !holds(&kids[i]) {
			return false
		}
	}
	return true
}

// all tells whether an ask holds of each kid.
func all(kids []api.Node, holds ask) bool {
	for i := range kids {
		if !holds(&kids[i]) {
			return false
		}
	}
	return true
}

func expression(n *api.Node) bool {
	return api.NodeNumber <= n.Kind && n.Kind <= api.NodeSizeof
}

func statement(n *api.Node) bool {
	return api.NodeBlock <= n.Kind && n.Kind <= api.NodeNone
}

// closed asks for a statement to which an else behind it can't belong.
func closed(n *api.Node) bool {
	return statement(n) && !openEnd(n)
}

// openEnd tells whether an else behind a statement would belong to an if within it.
func openEnd(n *api.Node) bool {
	for {
		switch n.Kind {
		case api.NodeIf, api.NodeWhile, api.NodeFor:
		default:
			return false
		}
		// Kids are not yet asked how many they are: there may be none.
		last := len(n.Kids) - 1
		if last < 0 {
			return false
		}
		if n.Kind == api.NodeIf && last == 1 {
			return true
		}
		n = &n.Kids[last]
	}
}

// bare asks for a declaration in which nothing has an initial value.
func bare(n *api.Node) bool {
	return n.Kind == api.NodeVars && all(n.Kids, func(v *api.Node) bool {
		return v.Kind != api.NodeVar || len(v.Kids) == 0 || v.Flag && len(v.Kids) == 1
	})
}

// kidsMay tells whether a node's kids are of kinds that may stand there; of a kind that is none no kids may.
func kidsMay(n *api.Node) bool {
	switch {
	case expression(n) || n.Kind == api.NodeType:
		return expressionKids(n)
	case statement(n):
		return statementKids(n)
	}
	return declarationKids(n)
}

func expressionKids(n *api.Node) bool {
	kids, aType := n.Kids, of(api.NodeType)
	switch n.Kind {
	case api.NodeNumber, api.NodeChar, api.NodeString, api.NodeName, api.NodeType:
		return are(kids)
	case api.NodeIndex, api.NodeBinary, api.NodeLogical:
		return are(kids, expression, expression)
	case api.NodeField, api.NodeArrow, api.NodeUnary:
		return are(kids, expression)
	case api.NodeCall:
		return all(kids, expression)
	case api.NodeCond:
		return are(kids, expression, expression, expression)
	case api.NodeAssign:
		place := of(api.NodeName, api.NodeIndex, api.NodeField, api.NodeArrow)
		return are(kids, place, expression)
	case api.NodeCast:
		return are(kids, aType, expression)
	case api.NodeSizeof:
		return are(kids, either(aType, expression))
	}
	return false
}

func statementKids(n *api.Node) bool {
	kids, perhaps := n.Kids, either(expression, of(api.NodeNone))
	switch n.Kind {
	case api.NodeBlock:
		return all(kids, either(statement, of(api.NodeVars)))
	case api.NodeEval:
		return are(kids, expression)
	case api.NodeIf:
		return are(kids, expression, statement) || are(kids, expression, closed, statement)
	case api.NodeWhile:
		return are(kids, expression, statement)
	case api.NodeDo:
		return are(kids, statement, expression)
	case api.NodeFor:
		return are(kids, perhaps, perhaps, perhaps, statement)
	case api.NodeBreak, api.NodeContinue, api.NodeNone:
		return are(kids)
	case api.NodeReturn:
		return are(kids) || are(kids, expression)
	}
	return false
}

func declarationKids(n *api.Node) bool {
	kids, aType := n.Kids, of(api.NodeType)
	last := len(kids) - 1
	switch n.Kind {
	case api.NodeProgram:
		return all(kids, of(api.NodeStruct, api.NodeVars, api.NodeFunc))
	case api.NodeStruct:
		return all(kids, bare)
	case api.NodeVars:
		return last > 0 && aType(&kids[0]) && all(kids[1:], of(api.NodeVar))
	case api.NodeVar:
		return varKids(n)
	case api.NodeList:
		return last >= 0 && all(kids, expression)
	case api.NodeFunc:
		return last > 0 && aType(&kids[0]) && all(kids[1:last], of(api.NodeParam)) && kids[last].Kind == api.NodeBlock
	case api.NodeParam:
		return are(kids, aType)
	}
	return false
}

func varKids(n *api.Node) bool {
	if !n.Flag {
		return are(n.Kids) || are(n.Kids, expression)
	}
	length := either(expression, of(api.NodeNone))
	value := either(expression, of(api.NodeList))
	return are(n.Kids, length) || are(n.Kids, length, value)
}

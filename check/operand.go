package check

import (
	"crucible/api"
	"crucible/types"
	"crucible/word"
)

// What is known of an operand's value ahead of any run.
const (
	open    = iota // nothing: it has a term that no constant has
	fixed          // it is a constant
	trapped        // it has the terms of a constant, but it would be a trap
)

// operand is a term, and what is known of its value. That is reckoned along with the term, so that a constant's tree is not gone through again.
type operand struct {
	term  api.Term
	known int
	bits  uint32 // fixed: its value
}

func constant(kind int, bits uint32) operand {
	return operand{term: api.Term{Kind: api.TermConst, Type: kind, Imm: int32(bits)}, known: fixed, bits: bits}
}

// converted is an operand as another type has it.
func converted(o operand, kind int) operand {
	if o.term.Type == kind {
		return o
	}
	t := api.Term{Kind: api.TermConv, Type: kind, Kids: []api.Term{o.term}}
	return operand{term: t, known: o.known, bits: word.Conv(kind, o.bits)}
}

func promoted(o operand) operand { return converted(o, types.Promoted(o.term.Type)) }

// commonType is the type in which two types' values are reckoned together.
func commonType(a, b int) int { return word.Common(types.Promoted(a), types.Promoted(b)) }

// common are two operands in the type in which they are reckoned together.
func common(a, b operand) (operand, operand) {
	kind := commonType(a.term.Type, b.term.Type)
	return converted(a, kind), converted(b, kind)
}

// alu is what an operation makes of two operands that are as it needs them.
func alu(op, kind int, a, b operand) operand {
	o := operand{term: api.Term{Kind: api.TermAlu, Type: kind, Op: op, Kids: []api.Term{a.term, b.term}}}
	o.known = knownOfAll(a, b)
	if o.known != fixed {
		return o
	}
	bits, trap := word.Alu(op, a.bits, b.bits)
	if trap != api.TrapNone {
		o.known = trapped
		return o
	}
	o.bits = bits
	return o
}

// knownOfAll is what is known of something that needs all of the operands.
func knownOfAll(l ...operand) int {
	known := fixed
	for _, o := range l {
		switch o.known {
		case open:
			return open
		case trapped:
			known = trapped
		}
	}
	return known
}

// anyOpen tells whether one of the operands keeps what they are part of from being a constant, be it reckoned or not.
func anyOpen(l ...operand) bool { return knownOfAll(l...) == open }

// operation is the Alu of a binary operator, with sign.
func operation(sign string) int {
	switch sign {
	case "+":
		return api.AluAdd
	case "-":
		return api.AluSub
	case "*":
		return api.AluMul
	case "/":
		return api.AluDiv
	case "%":
		return api.AluRem
	case "&":
		return api.AluAnd
	case "|":
		return api.AluOr
	case "^":
		return api.AluXor
	case "<<":
		return api.AluShl
	case ">>":
		return api.AluSar
	case "==":
		return api.AluEq
	case "!=":
		return api.AluNe
	case "<":
		return api.AluLt
	}
	return api.AluLe
}

// operationIn is the Alu of a binary operator of operands of a type.
func operationIn(kind int, sign string) int {
	if kind == api.TypeUint {
		return word.Unsigned(operation(sign))
	}
	return operation(sign)
}

func binary(sign string, a, b operand) operand {
	switch sign {
	case "<<", ">>":
		a, b = promoted(a), promoted(b)
		return alu(operationIn(a.term.Type, sign), a.term.Type, a, b)
	case "==", "!=", "<", "<=":
		a, b = common(a, b)
		return alu(operationIn(a.term.Type, sign), api.TypeInt, a, b)
	case ">":
		return isZero(binary("<=", a, b))
	case ">=":
		return isZero(binary("<", a, b))
	}
	a, b = common(a, b)
	return alu(operationIn(a.term.Type, sign), a.term.Type, a, b)
}

func isZero(o operand) operand {
	return alu(api.AluEq, api.TypeInt, o, constant(o.term.Type, 0))
}

func unary(sign string, o operand) operand {
	o = promoted(o)
	kind := o.term.Type
	switch sign {
	case "-":
		return alu(api.AluSub, kind, constant(kind, 0), o)
	case "~":
		return alu(api.AluXor, kind, o, constant(kind, 1<<32-1))
	}
	return isZero(o)
}

func logical(sign string, a, b operand) operand {
	o := operand{term: api.Term{Kind: api.TermAnd, Type: api.TypeInt, Kids: []api.Term{a.term, b.term}}}
	if sign == "||" {
		o.term.Kind = api.TermOr
	}
	switch {
	case anyOpen(a, b):
		return o
	case a.known == trapped:
		o.known = trapped
	case sign == "||" && a.bits != 0:
		o.known, o.bits = fixed, 1
	case sign == "&&" && a.bits == 0:
		o.known = fixed
	case b.known == trapped:
		o.known = trapped
	default:
		o.known, o.bits = fixed, truth(b.bits)
	}
	return o
}

func truth(bits uint32) uint32 {
	if bits != 0 {
		return 1
	}
	return 0
}

func conditional(test, yes, no operand) operand {
	yes, no = common(yes, no)
	o := operand{term: api.Term{Kind: api.TermCond, Type: yes.term.Type, Kids: []api.Term{test.term, yes.term, no.term}}}
	switch {
	case anyOpen(test, yes, no):
	case test.known == trapped:
		o.known = trapped
	case test.bits != 0:
		o.known, o.bits = yes.known, yes.bits
	default:
		o.known, o.bits = no.known, no.bits
	}
	return o
}

// assignment is that of a value to a place, by an operator without its `=`; without any, of the value as it is.
func assignment(sign string, place, value operand) operand {
	kind := place.term.Type
	t := api.Term{Kind: api.TermAssign, Type: kind}
	switch sign {
	case "":
		value = converted(value, kind)
	case "<<", ">>":
		t.Mid = types.Promoted(kind)
		value = promoted(value)
	default:
		t.Mid = commonType(kind, value.term.Type)
		value = converted(value, t.Mid)
	}
	if sign != "" {
		t.Op = operationIn(t.Mid, sign)
	}
	t.Kids = []api.Term{place.term, value.term}
	return operand{term: t}
}

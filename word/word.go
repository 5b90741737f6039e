// Package word is layer 1: what words of 32 bits reckon: see shared/doc/01-word.md.
package word

import "crucible/api"

// Alu is what an operation makes of two words, and the kind of trap that it meets instead.
func Alu(op int, a, b uint32) (uint32, int) {
	switch op {
	case api.AluAdd:
		return a + b, api.TrapNone
	case api.AluSub:
		return a - b, api.TrapNone
	case api.AluMul:
		return a * b, api.TrapNone
	case api.AluDiv, api.AluDivU, api.AluRem, api.AluRemU:
		return divide(op, a, b)
	case api.AluAnd:
		return a & b, api.TrapNone
	case api.AluOr:
		return a | b, api.TrapNone
	case api.AluXor:
		return a ^ b, api.TrapNone
	case api.AluShl, api.AluShr, api.AluSar:
		return shift(op, a, b), api.TrapNone
	case api.AluEq, api.AluNe, api.AluLt, api.AluLtU, api.AluLe, api.AluLeU:
		return bit(holds(op, a, b)), api.TrapNone
	}
	return 0, api.TrapCode
}

// divide answers for the operations that Traps names.
func divide(op int, a, b uint32) (uint32, int) {
	if b == 0 {
		return 0, api.TrapDivide
	}
	switch op {
	case api.AluDivU:
		return a / b, api.TrapNone
	case api.AluRemU:
		return a % b, api.TrapNone
	case api.AluRem:
		// Go defines -2^31 % -1 as 0, so that edge needs no case of its own.
		return uint32(int32(a) % int32(b)), api.TrapNone
	}
	// Likewise -2^31 / -1 wraps to -2^31 and does not panic.
	return uint32(int32(a) / int32(b)), api.TrapNone
}

func shift(op int, a, b uint32) uint32 {
	// Go would shift all bits out from 32 on; a word counts modulo 32.
	n := b % 32
	switch op {
	case api.AluShl:
		return a << n
	case api.AluShr:
		return a >> n
	}
	return uint32(int32(a) >> n)
}

func holds(op int, a, b uint32) bool {
	switch op {
	case api.AluEq:
		return a == b
	case api.AluNe:
		return a != b
	case api.AluLt:
		return int32(a) < int32(b)
	case api.AluLe:
		return int32(a) <= int32(b)
	case api.AluLtU:
		return a < b
	}
	return a <= b
}

func bit(yes bool) uint32 {
	if yes {
		return 1
	}
	return 0
}

// Conv is a word as a scalar type has it.
func Conv(kind int, x uint32) uint32 {
	if kind == api.TypeChar {
		return x % 256
	}
	return x
}

// Common is the type in which two scalars are reckoned.
func Common(a, b int) int {
	if a == api.TypeUint || b == api.TypeUint {
		return api.TypeUint
	}
	return api.TypeInt
}

// Unsigned is an operation as it is of words without sign.
func Unsigned(op int) int {
	switch op {
	case api.AluDiv:
		return api.AluDivU
	case api.AluRem:
		return api.AluRemU
	case api.AluSar:
		return api.AluShr
	case api.AluLt:
		return api.AluLtU
	case api.AluLe:
		return api.AluLeU
	}
	return op
}

// Commutes tells whether an operation may have its words the other way round.
func Commutes(op int) bool {
	switch op {
	case api.AluAdd, api.AluMul, api.AluAnd, api.AluOr, api.AluXor, api.AluEq, api.AluNe:
		return true
	}
	return false
}

// Traps tells whether an operation may meet a trap.
func Traps(op int) bool {
	switch op {
	case api.AluDiv, api.AluDivU, api.AluRem, api.AluRemU:
		return true
	}
	return false
}

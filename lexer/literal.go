package lexer

import (
	"strings"

	"crucible/api"
)

// tooGreat is the least number that no token may have.
const tooGreat = 1 << 32

// leastUint is the least number that is a uint without being named one.
const leastUint = 1 << 31

// noDigit is the value of a byte that is no digit, above that of every digit.
const noDigit = 16

// number reads a number, decimal or hexadecimal.
func number(s string) (api.Token, int) {
	base, from := uint64(10), 0
	if strings.HasPrefix(s, "0x") || strings.HasPrefix(s, "0X") {
		base, from = 16, 2
	}
	num, n := digits(s, from, base)
	// Nothing is said of noughts ahead of hexadecimal digits, so just decimal ones may have none.
	ahead := base == 10 && s[0] == '0' && n > 1
	if n == from || ahead || num >= tooGreat {
		return api.Token{}, 0
	}
	uns := num >= leastUint
	if n < len(s) && (s[n] == 'u' || s[n] == 'U') {
		uns = true
		n++
	}
	if n < len(s) && isInName(s[n]) {
		return api.Token{}, 0
	}
	return api.Token{Kind: api.TokenNumber, Num: uint32(num), Uns: uns}, n
}

// digits is the number that a text's digits make, and the place behind them; what is too great is told as tooGreat, so that however many digits can't wrap round.
func digits(s string, n int, base uint64) (uint64, int) {
	num := uint64(0)
	for ; n < len(s); n++ {
		d := digit(s[n])
		if d >= base {
			break
		}
		num = min(num*base+d, tooGreat)
	}
	return num, n
}

// digit is a hexadecimal digit's value, or noDigit.
func digit(b byte) uint64 {
	switch {
	case isDigit(b):
		return uint64(b - '0')
	case 'a' <= b && b <= 'f':
		return uint64(b-'a') + 10
	case 'A' <= b && b <= 'F':
		return uint64(b-'A') + 10
	}
	return noDigit
}

// character reads a character.
func character(s string) (api.Token, int) {
	b, n := unit(s[1:], s[0])
	if n == 0 || !strings.HasPrefix(s[1+n:], "'") {
		return api.Token{}, 0
	}
	return api.Token{Kind: api.TokenChar, Num: uint32(b)}, 1 + n + 1
}

// text reads a string.
func text(s string) (api.Token, int) {
	var held []byte
	at := 1
	for {
		b, n := unit(s[at:], s[0])
		if n == 0 {
			break
		}
		held = append(held, b)
		at += n
	}
	if !strings.HasPrefix(s[at:], `"`) {
		return api.Token{}, 0
	}
	return api.Token{Kind: api.TokenString, Text: string(held)}, at + 1
}

// unit is the byte of the unit that a text begins with, between marks of this kind, and how many bytes the unit has: 0, if none is there.
func unit(s string, mark byte) (byte, int) {
	if s == "" || s[0] == mark || !isPlain(s[0]) {
		return 0, 0
	}
	if s[0] == '\\' {
		return escape(s)
	}
	return s[0], 1
}

// escape is what unit tells of a text that begins with a \.
func escape(s string) (byte, int) {
	if len(s) < 2 {
		return 0, 0
	}
	switch s[1] {
	case 'n':
		return '\n', 2
	case 't':
		return '\t', 2
	case 'r':
		return '\r', 2
	case '0':
		return 0, 2
	case '\\', '\'', '"':
		return s[1], 2
	case 'x':
		return hexByte(s)
	}
	return 0, 0
}

// hexByte is what unit tells of a text that begins with \x.
func hexByte(s string) (byte, int) {
	if len(s) < 4 {
		return 0, 0
	}
	high, low := digit(s[2]), digit(s[3])
	if high == noDigit || low == noDigit {
		return 0, 0
	}
	return byte(high<<4 | low), 4
}

// isPlain tells whether a byte is a blank or a printed one of ASCII.
func isPlain(b byte) bool {
	return 0x20 <= b && b <= 0x7E
}

package lexer

import "strings"

// Reserved tells whether a name is a word of the language.
func Reserved(s string) bool {
	switch s {
	case "break", "char", "continue", "do", "else", "for", "getbyte", "if",
		"int", "putbyte", "return", "sizeof", "struct", "uint", "void", "while":
		return true
	}
	return false
}

// Named tells whether a text is a name, reserved or not.
func Named(s string) bool {
	if s == "" || isDigit(s[0]) {
		return false
	}
	for i := range len(s) {
		if !isInName(s[i]) {
			return false
		}
	}
	return true
}

// hexDigits are the digits that Quote writes.
const hexDigits = "0123456789abcdef"

// Quote is bytes as a string's literal.
func Quote(s string) string {
	var out strings.Builder
	out.Grow(len(s) + 2)
	out.WriteByte('"')
	for i := range len(s) {
		quoteByte(&out, s[i])
	}
	out.WriteByte('"')
	return out.String()
}

// quoteByte writes a byte as a unit of a string.
func quoteByte(out *strings.Builder, b byte) {
	switch {
	case b == '\n':
		out.WriteString(`\n`)
	case b == '\t':
		out.WriteString(`\t`)
	case b == '\r':
		out.WriteString(`\r`)
	case b == 0:
		out.WriteString(`\0`)
	case b == '"' || b == '\\':
		out.WriteByte('\\')
		out.WriteByte(b)
	case isPlain(b):
		out.WriteByte(b)
	default:
		out.WriteString(`\x`)
		out.WriteByte(hexDigits[b>>4])
		out.WriteByte(hexDigits[b&15])
	}
}

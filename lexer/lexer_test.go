package lexer

import (
	"math"
	"slices"
	"strconv"
	"strings"
	"testing"

	"crucible/api"
)

// The chapter's words and marks once more.
const (
	wordList = "break char continue do else for getbyte if int putbyte return sizeof struct uint void while"
	markList = "( ) { } [ ] ; , . -> = += -= *= /= %= &= |= ^= <<= >>= == != < > <= >= << >> + - * / % & | ^ ~ ! && || ? :"
)

func named(kind int, text string) api.Token { return api.Token{Kind: kind, Text: text} }

func num(n uint32, uns bool) api.Token {
	return api.Token{Kind: api.TokenNumber, Num: n, Uns: uns}
}

func char(b byte) api.Token { return api.Token{Kind: api.TokenChar, Num: uint32(b)} }

// standing is a token at its place.
func standing(tok api.Token, pos, end int) api.Token {
	tok.Pos, tok.End = pos, end
	return tok
}

// wantNext holds what Next tells of a token against the one that should be there.
func wantNext(t *testing.T, src string, at int, want api.Token) {
	t.Helper()
	tok, place, err := Next(src, at)
	if tok != want || place != 0 || err != api.OK {
		t.Errorf("Next(%q, %d): %+v, %d, %d, not %+v", src, at, tok, place, err, want)
	}
}

// wantRefused holds what Next and All tell against a refusal at a place.
func wantRefused(t *testing.T, src string, want int) {
	t.Helper()
	if list, place, err := All(src); len(list) != 0 || place != want || err != api.ErrLex {
		t.Errorf("All(%q): %+v, %d, %d, not ErrLex at %d", src, list, place, err, want)
	}
	if tok, place, err := Next(src, want); tok != (api.Token{}) || place != want || err != api.ErrLex {
		t.Errorf("Next(%q, %d): %+v, %d, %d, not ErrLex there", src, want, tok, place, err)
	}
}

// alone holds a token that is all of a source, then with others about it.
func alone(t *testing.T, s string, want api.Token) {
	t.Helper()
	wantNext(t, s, 0, standing(want, 0, len(s)))
	wantNext(t, "ab "+s+" c", 2, standing(want, 3, 3+len(s)))
	if list, place, err := All(s); len(list) != 2 || place != 0 || err != api.OK || list[1] != standing(api.Token{Kind: api.TokenEnd}, len(s), len(s)) {
		t.Errorf("All(%q): %+v, %d, %d", s, list, place, err)
	}
}

func TestWordsAndNames(t *testing.T) {
	words := strings.Fields(wordList)
	if len(words) != 16 {
		t.Fatalf("%d words", len(words))
	}
	for _, w := range words {
		alone(t, w, named(api.TokenWord, w))
		for _, s := range []string{w + "1", w + "_", "_" + w, w + w, "x" + w, strings.ToUpper(w), w[:len(w)-1] + "Z"} {
			alone(t, s, named(api.TokenName, s))
		}
	}
	for _, s := range []string{"a", "z", "A", "Z", "_", "__", "_0", "a9", "main", "x0x", "u", "U", "n0", "abcdefghijklmnopqrstuvwxyzABCDEFGHIJKLMNOPQRSTUVWXYZ_0123456789"} {
		alone(t, s, named(api.TokenName, s))
	}
	long := strings.Repeat("a1_Z", 1<<12)
	alone(t, long, named(api.TokenName, long))
}

func TestMarks(t *testing.T) {
	marks := strings.Fields(markList)
	if len(marks) != 43 {
		t.Fatalf("%d marks", len(marks))
	}
	for _, m := range marks {
		alone(t, m, named(api.TokenMark, m))
		wantNext(t, "a"+m+"b", 1, standing(named(api.TokenMark, m), 1, 1+len(m)))
	}
}

func TestMarksAsLongAsCanBe(t *testing.T) {
	for src, want := range map[string]string{
		"-->":       "- ->",
		"->>=":      "-> >=",
		"->=":       "-> =",
		"-=>":       "-= >",
		">>>=":      ">> >=",
		">>>>=":     ">> >>=",
		"<<<=":      "<< <=",
		"<<==":      "<<= =",
		"<=>":       "<= >",
		"===":       "== =",
		"====":      "== ==",
		"!==":       "!= =",
		"!!=":       "! !=",
		"&&&":       "&& &",
		"&&=":       "&& =",
		"&=&":       "&= &",
		"|||=":      "|| |=",
		"||=":       "|| =",
		"+++=":      "+ + +=",
		"--":        "- -",
		"**=":       "* *=",
		"~=":        "~ =",
		"?:=":       "? : =",
		"%=%":       "%= %",
		"^^=":       "^ ^=",
		"*/":        "* /",
		"*/=":       "* /=",
		"/=/":       "/= /",
		"/ /":       "/ /",
		"/ *":       "/ *",
		"...":       ". . .",
		"){}[];,.(": ") { } [ ] ; , . (",
	} {
		list, place, err := All(src)
		var got []string
		for _, tok := range list {
			if tok.Kind == api.TokenMark {
				got = append(got, tok.Text)
			}
		}
		if s := strings.Join(got, " "); s != want || len(list) != len(got)+1 || place != 0 || err != api.OK {
			t.Errorf("All(%q): %s, %d, %d, not %s", src, s, place, err, want)
		}
	}
}

func TestNumbers(t *testing.T) {
	for _, n := range []uint64{0, 1, 2, 7, 8, 9, 10, 15, 16, 31, 100, 1000, 65535, 65536, 1<<31 - 1, 1 << 31, 1<<31 + 1, 4000000000, 1<<32 - 2, 1<<32 - 1} {
		great := n >= 1<<31
		decimal, hex := strconv.FormatUint(n, 10), strconv.FormatUint(n, 16)
		forms := []string{decimal}
		for _, ahead := range []string{"0x", "0X"} {
			for _, noughts := range []int{0, 1, 8, 100} {
				s := ahead + strings.Repeat("0", noughts)
				forms = append(forms, s+hex, s+strings.ToUpper(hex))
			}
		}
		for _, s := range forms {
			alone(t, s, num(uint32(n), great))
			alone(t, s+"u", num(uint32(n), true))
			alone(t, s+"U", num(uint32(n), true))
		}
	}
	alone(t, "0x0123456", num(0x123456, false))
	alone(t, "0x789aBcD", num(0x789abcd, false))
	alone(t, "0xEeFf", num(0xeeff, false))
	alone(t, "1234567890", num(1234567890, false))
	wantNext(t, "12.5", 0, standing(num(12, false), 0, 2))
	wantNext(t, "12-5", 0, standing(num(12, false), 0, 2))
	wantNext(t, "12'a'", 0, standing(num(12, false), 0, 2))
	wantNext(t, "12u\"a\"", 0, standing(num(12, true), 0, 3))
	wantNext(t, "12\x80", 0, standing(num(12, false), 0, 2))
	wantNext(t, "1// 2", 0, standing(num(1, false), 0, 1))
}

func TestNumbersThatMayNotBe(t *testing.T) {
	for _, s := range []string{
		"00", "01", "08", "09", "010", "00u", "01U", "000", "00x1",
		"0x", "0X", "0xu", "0xU", "0xg", "0x_", "0xx1", "0x ", "0x+",
		"1a", "1_", "1A", "1z", "1Z", "9f", "1x", "0a", "0_", "0b1", "1x1",
		"1uu", "1UU", "1uU", "1u1", "1ua", "1u_", "0u0", "1l", "1e5",
		"0x1g", "0x1G", "0x1_", "0x1uu", "0x1u2", "0x1ul", "0x1x",
		"4294967296", "4294967297", "4294967296u", "42949672950", "10000000000",
		"18446744073709551616", "18446744073709551617", "99999999999999999999999999999999999999999",
		"0x100000000", "0x100000000u", "0x1ffffffff", "0x10000000000000000", "0x10000000000000001",
		"0x00000000100000000", "1" + strings.Repeat("0", 5000), "0x1" + strings.Repeat("0", 5000),
	} {
		wantRefused(t, s, 0)
		wantRefused(t, "a=1 "+s+" ;", 4)
	}
}

// unitForms are all units between marks of a kind, with their bytes.
func unitForms(mark byte) map[string]byte {
	forms := map[string]byte{`\n`: 10, `\t`: 9, `\r`: 13, `\0`: 0, `\\`: '\\', `\'`: '\'', `\"`: '"'}
	for b := 0x20; b <= 0x7E; b++ {
		if byte(b) != mark && b != '\\' {
			forms[string([]byte{byte(b)})] = byte(b)
		}
	}
	for b := range 256 {
		s := strconv.FormatInt(int64(b)+256, 16)[1:]
		forms[`\x`+s] = byte(b)
		forms[`\x`+strings.ToUpper(s)] = byte(b)
		forms[`\x`+strings.ToUpper(s[:1])+s[1:]] = byte(b)
		forms[`\x`+s[:1]+strings.ToUpper(s[1:])] = byte(b)
	}
	return forms
}

func TestCharacters(t *testing.T) {
	for s, b := range unitForms('\'') {
		alone(t, "'"+s+"'", char(b))
	}
	wantNext(t, "'a''b'", 0, standing(char('a'), 0, 3))
	wantNext(t, "'a''b'", 3, standing(char('b'), 3, 6))
}

func TestStrings(t *testing.T) {
	forms := unitForms('"')
	keys := []string{}
	for s, b := range forms {
		one := string([]byte{b})
		alone(t, `"`+s+`"`, named(api.TokenString, one))
		alone(t, `"a`+s+`1"`, named(api.TokenString, "a"+one+"1"))
		keys = append(keys, s)
	}
	slices.Sort(keys)
	src, held := "", ""
	for _, s := range keys {
		src += s
		held += string([]byte{forms[s]})
	}
	alone(t, `"`+src+`"`, named(api.TokenString, held))
	alone(t, `""`, named(api.TokenString, ""))
	alone(t, `"// no /* comment */"`, named(api.TokenString, "// no /* comment */"))
	wantNext(t, `"a""b"`, 0, standing(named(api.TokenString, "a"), 0, 3))
	wantNext(t, `"a""b"`, 3, standing(named(api.TokenString, "b"), 3, 6))
	long := strings.Repeat("long ", 1<<12)
	alone(t, `"`+long+`"`, named(api.TokenString, long))
}

func TestUnitsThatMayNotBe(t *testing.T) {
	bad := []string{`\`, `\x`, `\x4`, `\xg0`, `\x0g`, `\x 1`, `\x1 `, `\x-1`, `\X41`, `\N`}
	for b := range 256 {
		one := string([]byte{byte(b)})
		if b < 0x20 || b > 0x7E {
			bad = append(bad, one)
		}
		if !strings.Contains(`ntr0\'"x`, one) {
			bad = append(bad, `\`+one)
		}
	}
	for _, s := range bad {
		for _, mark := range []string{"'", `"`} {
			wantRefused(t, mark+s+mark, 0)
			wantRefused(t, mark+s, 0)
			wantRefused(t, "ab, "+mark+s+mark, 4)
		}
		wantRefused(t, `"ab`+s+`"`, 0)
	}
}

func TestCharactersAndStringsThatMayNotBe(t *testing.T) {
	for _, s := range []string{
		"'", "''", "'''", "''''", "'a", "'ab'", "'ab", "'a\"", "'\\n", "'\\nn'", "'\\012'", "'\\x411'", "'a\n'", "'\n'", "'a '", "'\\'", "'\\'x'",
		`"`, `"a`, `"\"`, `"a\"`, "\"a\n\"", "\"\n", "\"a\\\n\"", "\"a\r\"", "\"a\tb\"", `"a'`, `"\x41`,
	} {
		wantRefused(t, s, 0)
		wantRefused(t, "/* a */ x\n"+s, 10)
	}
	wantRefused(t, `"""`, 2)
	wantRefused(t, "'a''", 3)
}

func TestBetweenTokens(t *testing.T) {
	for _, s := range []string{
		" ", "\t", "\n", "\r", " \t\r\n ", "// a\n", "//\n", "// a\r\n", "// a // b\n", "// /* a\n", "// \x00\xff\n", "//*\n", "// \" ' \\\n",
		"/**/", "/***/", "/****/", "/*/*/", "/* a */", "/* a\nb\n*/", "/* // */", "/* /* */", "/* \x00\x80\xff */", "/* \" ' \\ */", "/* * / */", "/*a*//*b*/", "// a\n// b\n", "/*a*/ // b\n /*c*/",
	} {
		src := "a" + s + "b"
		wantNext(t, src, 1, standing(named(api.TokenName, "b"), 1+len(s), 2+len(s)))
		want := []api.Token{standing(named(api.TokenName, "a"), 0, 1), standing(named(api.TokenName, "b"), 1+len(s), 2+len(s)), {Kind: api.TokenEnd, Pos: len(src), End: len(src)}}
		if list, _, _ := All(src); !slices.Equal(list, want) {
			t.Errorf("All(%q): %+v, not %+v", src, list, want)
		}
		wantNext(t, s, 0, api.Token{Kind: api.TokenEnd, Pos: len(s), End: len(s)})
	}
	for _, s := range []string{"", "//", "// a", "//\\", "// */", "///*", " // \"", "/**///"} {
		wantNext(t, s, 0, api.Token{Kind: api.TokenEnd, Pos: len(s), End: len(s)})
	}
	for src, place := range map[string]int{"/*": 0, "/*/": 0, "/* a": 0, "/* a *": 0, "/* a * /": 0, "a/*": 1, "a /*/ b": 2, "/**/ /*": 5, "// a\n/*": 5, "/* a */ b /* c": 10, "/* // */\n /* // \n": 10, "1/*": 1, "\"a\"/* \"b\"": 3} {
		wantRefused(t, src, place)
	}
}

func TestBytesThatBeginNothing(t *testing.T) {
	for b := range 256 {
		one := string([]byte{byte(b)})
		begins := strings.Contains(" \t\r\n_'\"(){}[];,.-=+*/%&|^<>!~?:", one) || Named(one) || '0' <= b && b <= '9'
		if begins {
			continue
		}
		wantRefused(t, one, 0)
		wantRefused(t, "a"+one, 1)
		wantRefused(t, " 1 "+one+"1", 3)
		wantRefused(t, "/**/ // a\n"+one+"/*", 10)
		wantRefused(t, `""`+one+one, 2)
	}
	wantRefused(t, "\xc3\xa4", 0)
	wantRefused(t, "a\xc3\xa4", 1)
}

func TestNextAtPlaces(t *testing.T) {
	src := "int  abc >>= 0x12;\"q\\n\""
	for at := range 6 {
		switch at {
		case 0:
			wantNext(t, src, at, standing(named(api.TokenWord, "int"), 0, 3))
		case 1, 2:
			wantNext(t, src, at, standing(named(api.TokenName, src[at:3]), at, 3))
		default:
			wantNext(t, src, at, standing(named(api.TokenName, "abc"), 5, 8))
		}
	}
	wantNext(t, src, 10, standing(named(api.TokenMark, ">="), 10, 12))
	wantNext(t, src, 11, standing(named(api.TokenMark, "="), 11, 12))
	wantNext(t, src, 14, standing(named(api.TokenName, "x12"), 14, 17))
	wantNext(t, src, 15, standing(num(12, false), 15, 17))
	wantNext(t, src, 19, standing(named(api.TokenName, "q"), 19, 20))
	wantNext(t, src, len(src), api.Token{Kind: api.TokenEnd, Pos: len(src), End: len(src)})
	for _, at := range []int{20, 22} {
		if tok, place, err := Next(src, at); tok != (api.Token{}) || place != at || err != api.ErrLex {
			t.Errorf("at %d: %+v, %d, %d", at, tok, place, err)
		}
	}
	// What can't be read ahead of at is not asked for.
	wantNext(t, "@ a", 1, standing(named(api.TokenName, "a"), 2, 3))
	wantNext(t, "/* a", 2, standing(named(api.TokenName, "a"), 3, 4))
	for _, s := range []string{"", "a", "@", "/*", src} {
		for _, at := range []int{-1, -2, math.MinInt, len(s) + 1, len(s) + 2, math.MaxInt} {
			if tok, place, err := Next(s, at); tok != (api.Token{}) || place != 0 || err != api.ErrArg {
				t.Errorf("Next(%q, %d): %+v, %d, %d, not ErrArg", s, at, tok, place, err)
			}
		}
	}
}

func TestAll(t *testing.T) {
	want := []api.Token{
		standing(named(api.TokenName, "a"), 0, 1),
		standing(named(api.TokenMark, "->"), 1, 3),
		standing(named(api.TokenName, "b"), 3, 4),
		standing(named(api.TokenMark, ">>="), 4, 7),
		standing(num(31, true), 7, 12),
		{Kind: api.TokenEnd, Pos: 12, End: 12},
	}
	if list, place, err := All("a->b>>=0x1Fu"); !slices.Equal(list, want) || place != 0 || err != api.OK {
		t.Errorf("%+v, %d, %d", list, place, err)
	}
	if list, place, err := All(""); !slices.Equal(list, []api.Token{{Kind: api.TokenEnd}}) || place != 0 || err != api.OK {
		t.Errorf("the empty source: %+v, %d, %d", list, place, err)
	}
	wantRefused(t, "010", 0)
	wantRefused(t, "4294967296", 0)
	wantRefused(t, "int main() { return 08; }", 20)
	// The first that can't be read is told.
	wantRefused(t, "a @ 010 /*", 2)
	wantRefused(t, "a 010 @ /*", 2)
	wantRefused(t, "a /* @ 010", 2)
}

func TestAllAtItsLimit(t *testing.T) {
	for _, s := range []string{"a ", "  ", "; ", ";;", "@@", "/*", "//", `""`, "12", "''"} {
		at := strings.Repeat(s, api.MaxSource/2)
		if _, _, err := All(at); err == api.ErrLong {
			t.Errorf("2^16 bytes of %q are too many", s)
		}
		for _, more := range []string{" ", "a", "@", "/*", strings.Repeat(" ", api.MaxSource)} {
			if list, place, err := All(at + more); len(list) != 0 || place != 0 || err != api.ErrLong {
				t.Errorf("%d bytes of %q: %d, %d, %d, not ErrLong", len(at+more), s, len(list), place, err)
			}
		}
	}
	src := strings.Repeat(";", api.MaxSource)
	list, place, err := All(src)
	if len(list) != api.MaxSource+1 || place != 0 || err != api.OK {
		t.Fatalf("2^16 marks: %d, %d, %d", len(list), place, err)
	}
	for i, tok := range list[:api.MaxSource] {
		if tok != standing(named(api.TokenMark, ";"), i, i+1) {
			t.Fatalf("mark %d: %+v", i, tok)
		}
	}
	wantRefused(t, strings.Repeat(";", api.MaxSource-1)+"@", api.MaxSource-1)
	// Next has no such limit.
	long := strings.Repeat(" ", 3*api.MaxSource)
	wantNext(t, long+"a", 0, standing(named(api.TokenName, "a"), len(long), len(long)+1))
}

func TestReservedAndNamed(t *testing.T) {
	for _, w := range strings.Fields(wordList) {
		if !Reserved(w) || !Named(w) {
			t.Errorf("%s is a word", w)
		}
		for _, s := range []string{" " + w, w + " ", w + "\x00", w + ";", "1" + w} {
			if Reserved(s) || Named(s) {
				t.Errorf("%q is no name", s)
			}
		}
		for _, s := range []string{w[1:], w + w, strings.ToUpper(w), w + "0"} {
			if s != "" && !strings.Contains(" "+wordList+" ", " "+s+" ") && (Reserved(s) || !Named(s)) {
				t.Errorf("%q is a name alone", s)
			}
		}
	}
	for _, s := range []string{"main", "a", "_", "_1", "Z9", "unsigned", "static", "goto", "switch", "const", "long", "sizeOf"} {
		if Reserved(s) || !Named(s) {
			t.Errorf("%q is a name alone", s)
		}
	}
	for _, s := range []string{"", "1", "1a", "0", " ", "a b", "a-b", "a.b", "\xc3\xa4", "a\x80", "\x00", "a\n", "(", "->", "'a'", `"a"`} {
		if Reserved(s) || Named(s) {
			t.Errorf("%q is no name", s)
		}
	}
	for b := range 256 {
		one := string([]byte{byte(b)})
		first := b >= 'a' && b <= 'z' || b >= 'A' && b <= 'Z' || b == '_'
		if Named(one) != first || Named("a"+one+"b") != (first || b >= '0' && b <= '9') {
			t.Errorf("%q in names: %v, %v", one, Named(one), Named("a"+one+"b"))
		}
	}
}

func TestQuote(t *testing.T) {
	for b := range 256 {
		one := string([]byte{byte(b)})
		want := one
		switch {
		case b == 10:
			want = `\n`
		case b == 9:
			want = `\t`
		case b == 13:
			want = `\r`
		case b == 0:
			want = `\0`
		case one == `"`:
			want = `\"`
		case one == `\`:
			want = `\\`
		case b < 0x20 || b > 0x7E:
			want = `\x` + strconv.FormatInt(int64(b)+256, 16)[1:]
		}
		if got := Quote(one); got != `"`+want+`"` {
			t.Errorf("Quote of byte %d: %s, not %s", b, got, want)
		}
		if got := Quote("1" + one + "f" + one); got != `"1`+want+`f`+want+`"` {
			t.Errorf("Quote of byte %d among others: %s", b, got)
		}
	}
	if got := Quote(""); got != `""` {
		t.Errorf("Quote of nothing: %s", got)
	}
	if got := Quote("it's \xc3\xa4"); got != `"it's \xc3\xa4"` {
		t.Errorf("Quote: %s", got)
	}
	if got := Quote(strings.Repeat("\x7f", 1<<17)); got != `"`+strings.Repeat(`\x7f`, 1<<17)+`"` {
		t.Error("Quote of many bytes")
	}
}

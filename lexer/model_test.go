package lexer

import (
	"math/rand"
	"regexp"
	"slices"
	"strconv"
	"strings"
	"testing"

	"crucible/api"
)

// The model reads by patterns what the chapter says of tokens.
var (
	gapPattern    = regexp.MustCompile(`^(?:[ \t\n\r]|//[^\n]*|/\*(?s:.*?)\*/)*`)
	namePattern   = regexp.MustCompile(`^[A-Za-z_][A-Za-z_0-9]*`)
	numberPattern = regexp.MustCompile(`^(0|[1-9][0-9]*|0[xX][0-9a-fA-F]+)([uU]?)`)
	charPattern   = regexp.MustCompile(`^'([ -&(-\[\]-~]|\\[ntr0\\'"]|\\x[0-9a-fA-F]{2})'`)
	stringPattern = regexp.MustCompile(`^"((?:[ !#-\[\]-~]|\\[ntr0\\'"]|\\x[0-9a-fA-F]{2})*)"`)
	unitPattern   = regexp.MustCompile(`\\x..|\\.|.`)
)

// modelNext is what Next should tell at a place of the source.
func modelNext(src string, at int) (api.Token, int, api.Errno) {
	pos := at + len(gapPattern.FindString(src[at:]))
	rest := src[pos:]
	if rest == "" {
		return api.Token{Kind: api.TokenEnd, Pos: pos, End: pos}, 0, api.OK
	}
	tok, s := modelToken(rest)
	if s == "" || strings.HasPrefix(rest, "/*") {
		return api.Token{}, pos, api.ErrLex
	}
	tok.Pos, tok.End = pos, pos+len(s)
	return tok, 0, api.OK
}

func modelToken(rest string) (api.Token, string) {
	if s := namePattern.FindString(rest); s != "" {
		if slices.Contains(strings.Fields(wordList), s) {
			return named(api.TokenWord, s), s
		}
		return named(api.TokenName, s), s
	}
	if strings.ContainsAny(rest[:1], "0123456789") {
		return modelNumber(rest)
	}
	if m := charPattern.FindStringSubmatch(rest); m != nil {
		return char(modelUnits(m[1])[0]), m[0]
	}
	if m := stringPattern.FindStringSubmatch(rest); m != nil {
		return named(api.TokenString, modelUnits(m[1])), m[0]
	}
	longest := ""
	for _, m := range strings.Fields(markList) {
		if strings.HasPrefix(rest, m) && len(m) > len(longest) {
			longest = m
		}
	}
	return named(api.TokenMark, longest), longest
}

func modelNumber(rest string) (api.Token, string) {
	numberPattern.Longest()
	m := numberPattern.FindStringSubmatch(rest)
	n, err := strconv.ParseUint(m[1], 0, 32)
	behind := rest[len(m[0]):]
	if err != nil || behind != "" && regexp.MustCompile(`^[0-9A-Za-z_]`).MatchString(behind) {
		return api.Token{}, ""
	}
	return num(uint32(n), m[2] != "" || n >= 1<<31), m[0]
}

// modelUnits are the bytes of units.
func modelUnits(s string) string {
	return unitPattern.ReplaceAllStringFunc(s, func(u string) string {
		switch {
		case strings.HasPrefix(u, `\x`):
			n, _ := strconv.ParseUint(u[2:], 16, 8)
			return string([]byte{byte(n)})
		case strings.HasPrefix(u, `\`):
			i := strings.IndexByte(`ntr0\'"`, u[1])
			return "\n\t\r\x00\\'\""[i : i+1]
		}
		return u
	})
}

// modelAll is what All should tell of the source from a place on.
func modelAll(src string, at int) ([]api.Token, int, api.Errno) {
	tok, place, err := modelNext(src, at)
	if tok.Kind == api.TokenEnd {
		return []api.Token{tok}, 0, api.OK
	}
	if err != api.OK {
		return nil, place, err
	}
	rest, place, err := modelAll(src, tok.End)
	if err != api.OK {
		return nil, place, err
	}
	return append([]api.Token{tok}, rest...), 0, api.OK
}

func holdAll(t *testing.T, src string) []api.Token {
	t.Helper()
	list, place, err := All(src)
	wantList, wantPlace, wantErr := modelAll(src, 0)
	if !slices.Equal(list, wantList) || place != wantPlace || err != wantErr {
		t.Fatalf("All(%q): %+v, %d, %d, not %+v, %d, %d", src, list, place, err, wantList, wantPlace, wantErr)
	}
	return list
}

// pieces are what random sources are made of: whole tokens, and parts that make and break them.
func pieces() []string {
	list := strings.Fields(wordList + " " + markList)
	return append(list, " ", "\n", "\t", "\r", "//", "/*", "*/", "'", `"`, `\`, `\x`, "0", "0x", "00", "7", "19", "u", "U", "f", "G", "_", "a", "n", "4294967295", "4294967296", "2147483648", "0xffffffff", "'a'", `'\n'`, `"a\"b"`, `"\x4`, "@", "\x00", "\x7f", "\x80", "\xff", "\xc3\xa4", "// a\n", "/* b */")
}

func randomSource(r *rand.Rand, parts []string, n int) string {
	var src strings.Builder
	for range n {
		src.WriteString(parts[r.Intn(len(parts))])
	}
	return src.String()
}

func TestRandomSources(t *testing.T) {
	r := rand.New(rand.NewSource(7))
	parts := pieces()
	for range 30000 {
		s := randomSource(r, parts, r.Intn(7))
		holdAll(t, s)
		at := r.Intn(len(s) + 1)
		tok, place, err := Next(s, at)
		wantTok, wantPlace, wantErr := modelNext(s, at)
		if tok != wantTok || place != wantPlace || err != wantErr {
			t.Fatalf("Next(%q, %d): %+v, %d, %d, not %+v, %d, %d", s, at, tok, place, err, wantTok, wantPlace, wantErr)
		}
	}
}

func TestAllShortSources(t *testing.T) {
	const alphabet = "a0x1u_'\"\\/*=>-n \n@"
	var grow func(s string, n int)
	grow = func(s string, n int) {
		holdAll(t, s)
		if n == 0 {
			return
		}
		for i := range len(alphabet) {
			grow(s+alphabet[i:i+1], n-1)
		}
	}
	grow("", 3)
}

// readable are tokens that may stand in a source, with gaps between, in any order.
func readable() []string {
	list := strings.Fields(wordList + " " + markList + " a main _1 x0 0 7 0x1F 19u 4294967295 0XaBU")
	return append(list, "'a'", `'\''`, `'\x00'`, `"a b"`, `"// \" /*"`, `""`)
}

func gap(r *rand.Rand) string {
	gaps := []string{" ", "\t", "\n", "\r", " // a\n", " /* b */ ", "/**/", "/* \n * ' \" // */"}
	s := ""
	for range 1 + r.Intn(3) {
		s += gaps[r.Intn(len(gaps))]
	}
	return s
}

// unplaced are tokens without their places.
func unplaced(list []api.Token) []api.Token {
	out := slices.Clone(list)
	for i := range out {
		out[i].Pos, out[i].End = 0, 0
	}
	return out
}

func TestBlanksChangePlacesAlone(t *testing.T) {
	r := rand.New(rand.NewSource(8))
	parts := readable()
	for range 3000 {
		once, twice, n := "", gap(r), 1+r.Intn(8)
		var ends []int
		for range n {
			s := parts[r.Intn(len(parts))]
			// One blank at least, lest a mark end in the comment's opening, or two tokens grow together.
			once += s + " "
			twice += s
			ends = append(ends, len(twice))
			twice += " " + gap(r)
		}
		a, b := holdAll(t, once), holdAll(t, twice)
		if len(a) != n+1 || !slices.Equal(unplaced(a), unplaced(b)) {
			t.Fatalf("%q and %q: %+v, %+v", once, twice, a, b)
		}
		for i, end := range ends {
			if b[i].End != end {
				t.Fatalf("%q: token %d ends at %d, not %d", twice, i, b[i].End, end)
			}
		}
	}
}

func TestBetweenTokensIsNone(t *testing.T) {
	r := rand.New(rand.NewSource(9))
	parts := pieces()
	for range 20000 {
		s := randomSource(r, parts, r.Intn(9))
		list, _, err := All(s)
		if err != api.OK {
			continue
		}
		at := 0
		for i, tok := range list {
			last := i == len(list)-1
			if tok.Pos < at || last != (tok.Kind == api.TokenEnd) || last != (tok.End == tok.Pos) || tok.End > len(s) {
				t.Fatalf("%q: token %d, %+v", s, i, tok)
			}
			if between, _, err := All(s[at:tok.Pos]); len(between) != 1 || err != api.OK {
				t.Fatalf("%q: between %d and %d lies a token", s, at, tok.Pos)
			}
			at = tok.End
		}
		if at != len(s) {
			t.Fatalf("%q: the last ends at %d", s, at)
		}
	}
}

func TestQuoteIsReadAgain(t *testing.T) {
	r := rand.New(rand.NewSource(10))
	every := make([]byte, 256)
	for b := range every {
		every[b] = byte(b)
		one := string(every[b : b+1])
		alone(t, Quote(one), named(api.TokenString, one))
	}
	alone(t, Quote(string(every)), named(api.TokenString, string(every)))
	alone(t, Quote(""), named(api.TokenString, ""))
	for range 2000 {
		b := make([]byte, r.Intn(12))
		for i := range b {
			b[i] = []byte("\n\t\r\x00\"\\'x41nazAF \x7e\x7f\x80\xff\x1f")[r.Intn(21)]
		}
		alone(t, Quote(string(b)), named(api.TokenString, string(b)))
		alone(t, Quote(Quote(string(b))), named(api.TokenString, Quote(string(b))))
	}
}

package parser

import (
	"math/rand"
	"strings"
	"testing"

	"crucible/api"
	"crucible/lexer"
)

// grammar is the document's, each row as alternatives. (A type between parentheses behind sizeof is all of it: measured has no cast.)
const grammar = `
program = | program item
item = struct | vars | function
struct = "struct" NAME "{" fields "}" ";"
fields = | fields type vars0 ";"
vars0 = var0 | vars0 "," var0
var0 = NAME | NAME "[" "]" | NAME "[" expr "]"
vars = type vars1 ";"
vars1 = var | vars1 "," var
var = var0 | var0 "=" expr | NAME "[" "]" "=" list | NAME "[" expr "]" "=" list
list = "{" exprs "}"
exprs = expr | exprs "," expr
type = "int" | "uint" | "char" | "void" | "struct" NAME
function = type NAME "(" ")" block | type NAME "(" params ")" block
params = param | params "," param
param = type NAME | type NAME "[" "]" | type "*" NAME
block = "{" inblock "}"
inblock = | inblock vars | inblock statement
perhaps = | expr
statement = block | ";" | expr ";" | "if" "(" expr ")" statement | "if" "(" expr ")" statement "else" statement | "while" "(" expr ")" statement
statement = "do" statement "while" "(" expr ")" ";" | "for" "(" perhaps ";" perhaps ";" perhaps ")" statement | "break" ";" | "continue" ";" | "return" perhaps ";"
expr = cond | place ASSIGN expr
place = "(" place ")" | NAME | postfix "[" expr "]" | postfix "." NAME | postfix "->" NAME
cond = binary | binary "?" expr ":" cond
binary = unary | binary OPERATOR unary
unary = measured | "(" type ")" unary
measured = SIGN unary | "sizeof" "(" type ")" | "sizeof" measured | postfix
postfix = primary | postfix "[" expr "]" | postfix "." NAME | postfix "->" NAME
primary = NUMBER | CHAR | STRING | NAME | "(" expr ")" | called "(" ")" | called "(" exprs ")"
called = NAME | "getbyte" | "putbyte"
SIGN = "-" | "~" | "!" | "&"
OPERATOR = "||" | "&&" | "|" | "^" | "&" | "==" | "!=" | "<" | ">" | "<=" | ">=" | "<<" | ">>" | "+" | "-" | "*" | "/" | "%"
ASSIGN = "=" | "+=" | "-=" | "*=" | "/=" | "%=" | "&=" | "|=" | "^=" | "<<=" | ">>="
ofprogram = program END
ofexpr = expr END
`

// model knows of each row of tokens whether something begins so: it follows all readings at once.
type model struct {
	rules map[string][][]string
	none  map[string]bool // what may be no token at all
}

// progress is a rule of which a part was read, from a token on.
type progress struct {
	rule  string
	which int
	dot   int
	from  int
}

type stage struct {
	list []progress
	has  map[progress]bool
}

func newModel() *model {
	m := &model{map[string][][]string{}, map[string]bool{}}
	for _, line := range strings.Split(strings.TrimSpace(grammar), "\n") {
		name, rest, _ := strings.Cut(line, " = ")
		for _, alternative := range strings.Split(" "+strings.ReplaceAll(rest, `"|"`, `"or"`)+" ", " | ") {
			var symbols []string
			for _, s := range strings.Fields(alternative) {
				symbols = append(symbols, strings.ReplaceAll(s, `"or"`, `"|"`))
			}
			m.rules[name] = append(m.rules[name], symbols)
			if len(symbols) == 0 {
				m.none[name] = true
			}
		}
	}
	return m
}

func (m *model) add(stages []*stage, p progress) {
	s := stages[len(stages)-1]
	if !s.has[p] {
		s.has[p] = true
		s.list = append(s.list, p)
	}
}

// fill lays all that follows from what is in the last stage.
func (m *model) fill(stages []*stage) {
	now := len(stages) - 1
	for i := 0; i < len(stages[now].list); i++ {
		p := stages[now].list[i]
		symbols := m.rules[p.rule][p.which]
		if p.dot == len(symbols) {
			for j := 0; j < len(stages[p.from].list); j++ {
				q := stages[p.from].list[j]
				if row := m.rules[q.rule][q.which]; q.dot < len(row) && row[q.dot] == p.rule {
					q.dot++
					m.add(stages, q)
				}
			}
			continue
		}
		next := symbols[p.dot]
		for which := range m.rules[next] {
			m.add(stages, progress{next, which, 0, now})
		}
		if m.none[next] {
			p.dot++
			m.add(stages, p)
		}
	}
}

func (m *model) start(what string) []*stage {
	stages := []*stage{{has: map[progress]bool{}}}
	m.add(stages, progress{what, 0, 0, 0})
	m.fill(stages)
	return stages
}

// next is the stages behind one more token; nil: it can't stand there.
func (m *model) next(stages []*stage, symbol string) []*stage {
	last := stages[len(stages)-1]
	out := append(stages[:len(stages):len(stages)], &stage{has: map[progress]bool{}})
	for _, p := range last.list {
		if row := m.rules[p.rule][p.which]; p.dot < len(row) && row[p.dot] == symbol {
			p.dot++
			m.add(out, p)
		}
	}
	if len(out[len(out)-1].list) == 0 {
		return nil
	}
	m.fill(out)
	return out
}

// symbol is what a token is in the grammar.
func symbol(t api.Token) string {
	switch t.Kind {
	case api.TokenEnd:
		return "END"
	case api.TokenName:
		return "NAME"
	case api.TokenNumber:
		return "NUMBER"
	case api.TokenChar:
		return "CHAR"
	case api.TokenString:
		return "STRING"
	}
	return `"` + t.Text + `"`
}

// verdict is the place of the first token of a source that can't stand there, by the model; -1: there is none.
func (m *model) verdict(t *testing.T, what, src string) int {
	tokens, _, e := lexer.All(src)
	if e != api.OK {
		t.Fatalf("%q: %d", src, e)
	}
	stages := m.start(what)
	for _, tok := range tokens {
		if stages = m.next(stages, symbol(tok)); stages == nil {
			return tok.Pos
		}
	}
	return -1
}

// agrees holds what is told of a source against the model.
func agrees(t *testing.T, read func(string) (api.Node, int, api.Errno), src string, place int) {
	t.Helper()
	if place >= 0 {
		refuses(t, read, src, api.ErrSyntax, place)
	} else if _, p, e := read(src); e != api.OK || p != 0 {
		t.Errorf("%q: %d at %d, and not OK", src, e, p)
	}
}

// everyToken is one token of each sort.
func everyToken() []string {
	return strings.Fields("break char continue do else for getbyte if int putbyte return sizeof struct uint void while ( ) { } [ ] ; , . -> = += -= *= /= %= &= |= ^= <<= >>= == != < > <= >= << >> + - * / % & | ^ ~ ! && || ? : a 1 'b' \"c\" \"(\" \");\"")
}

// rows has sources in which each row of the grammar stands with few parts and with many.
func rows() []string {
	return []string{
		"struct s { } ; struct t { int a ; struct s b , c [ 2 ] , d [ ] ; } ;",
		"int x ; uint y = 1 , z [ ] , w [ 2 ] = { a , b } ; void v [ ] = { 3 } , u [ 4 ] = 5 ;",
		"char f ( ) { } struct s g ( int a , char b [ ] , struct t * c , int * d ) { ; }",
		"int f ( ) { { } ; a ; int b , c [ 1 ] = { 2 } ; if ( a ) ; if ( a ) ; else ; }",
		"int f ( ) { if ( a ) if ( b ) ; else ; else { while ( a ) do ; while ( b ) ; } }",
		"int f ( ) { for ( ; ; ) ; for ( a ; b ; c ) break ; for ( ; b ; ) continue ; return ; return a ; }",
		"int f ( ) { a = ( b ) += c ; x [ 1 ] = y . z -= w -> v ; ( ( u ) ) = 2 ; }",
		"int f ( ) { a + b * c || d && - ~ ! & e ; ( int ) a ; ( struct s ) ( char ) ( b ) ; }",
		"int f ( ) { sizeof ( int ) - a ; sizeof b ; sizeof ( c ) [ 1 ] ; sizeof ( ( int ) d ) ; sizeof - sizeof ( struct s ) ; }",
		"int f ( ) { a ? b = c : d ? e : f ; g ( ) ; g ( a , b ) . c [ d ] -> e ; getbyte ( ) ; putbyte ( 'a' , \"b\" ) ; 1 ; }",
	}
}

// TestEachToken lays each sort of token in each token's place, and ends each source there.
func TestEachToken(t *testing.T) {
	m := newModel()
	every := everyToken()
	for _, src := range rows() {
		words := strings.Fields(src)
		stages := m.start("ofprogram")
		for i := range words {
			ahead := strings.Join(words[:i], " ") + " "
			behind := " " + strings.Join(words[min(i+1, len(words)):], " ")
			agrees(t, Parse, ahead, ends(m, stages, len(ahead)))
			for _, w := range every {
				after := m.next(stages, symbolOf(t, w))
				if after == nil {
					agrees(t, Parse, ahead+w+behind, len(ahead))
					agrees(t, Parse, ahead+w, len(ahead))
				} else {
					agrees(t, Parse, ahead+w, ends(m, after, len(ahead+w)))
				}
			}
			if stages = m.next(stages, symbolOf(t, words[i])); stages == nil {
				t.Fatalf("%s: no program, from %s on", src, words[i])
			}
		}
		agrees(t, Parse, src, ends(m, stages, len(src)))
	}
}

// TestEachTokenOfExpressions likewise, of expressions alone.
func TestEachTokenOfExpressions(t *testing.T) {
	m := newModel()
	every := everyToken()
	for _, src := range []string{
		"a = b ? c [ 1 ] : ( d ) . e", "sizeof ( int ) * sizeof a -> b", "- ( char ) f ( 'a' , 2 ) || getbyte ( ) && ~ \"s\"", "( ( a ) [ 0 ] ) += ( b ) <<= c == d", "1 + 2 * 3 ? ( a = b ) : c ? d : e",
	} {
		words := strings.Fields(src)
		stages := m.start("ofexpr")
		for i := range words {
			ahead := strings.Join(words[:i], " ") + " "
			agrees(t, Expression, ahead, ends(m, stages, len(ahead)))
			for _, w := range every {
				after := m.next(stages, symbolOf(t, w))
				if after == nil {
					agrees(t, Expression, ahead+w+" a", len(ahead))
				} else {
					agrees(t, Expression, ahead+w, ends(m, after, len(ahead+w)))
				}
			}
			stages = m.next(stages, symbolOf(t, words[i]))
		}
		agrees(t, Expression, src, ends(m, stages, len(src)))
	}
}

// ends is -1 if a source may end behind these stages, else the place of that end.
func ends(m *model, stages []*stage, end int) int {
	if m.next(stages, "END") != nil {
		return -1
	}
	return end
}

func symbolOf(t *testing.T, word string) string {
	tok, _, e := lexer.Next(word, 0)
	if e != api.OK {
		t.Fatalf("%q: %d", word, e)
	}
	return symbol(tok)
}

// TestRandomTokens spoils random programs, and has random tokens.
func TestRandomTokens(t *testing.T) {
	r := rand.New(rand.NewSource(9))
	m := newModel()
	every := everyToken()
	for range 400 {
		w := writer{r: r}
		w.program(1 + r.Intn(2))
		words := w.tokens
		at := r.Intn(len(words) + 1)
		some := every[r.Intn(len(every))]
		behind := words[at:]
		switch r.Intn(4) {
		case 0:
			behind = behind[min(1, len(behind)):]
		case 1:
			behind = append([]string{some}, behind...)
		case 2:
			behind = append([]string{some}, behind[min(1, len(behind)):]...)
		case 3:
			if len(behind) > 1 {
				behind = append([]string{behind[1], behind[0]}, behind[2:]...)
			}
		}
		src := strings.Join(words[:at], " ") + " " + strings.Join(behind, " ")
		agrees(t, Parse, src, m.verdict(t, "ofprogram", src))
	}
	for range 2000 {
		var words []string
		for range 1 + r.Intn(8) {
			words = append(words, every[r.Intn(len(every))])
		}
		src := strings.Join(words, " ")
		agrees(t, Parse, src, m.verdict(t, "ofprogram", src))
		agrees(t, Parse, "int f(){"+src, m.verdict(t, "ofprogram", "int f(){"+src))
		agrees(t, Expression, src, m.verdict(t, "ofexpr", src))
	}
}

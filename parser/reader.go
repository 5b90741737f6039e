package parser

import "crucible/api"

// step reads a part of a source, and lays what is to be read behind it.
type step func(r *reader)

// reader has a source's tokens, what is still to be read, and the nodes that were read or begun. (All of it in lists, not in calls within calls: parentheses may be as deep as a source is long.)
type reader struct {
	tokens []api.Token // up to a TokenEnd
	at     int
	todo   []step  // the next one last
	begun  []begun // nodes that lack kids, the innermost last
	done   []done  // nodes that are no kids yet, in their order
}

// begun is a node whose kids are being read.
type begun struct {
	node  api.Node
	level int // of an operator between two operands; else 0
	first int // which of the nodes done is its first kid
}

// done is a node that was read.
type done struct {
	node  api.Node
	start int // the place of its first token, parentheses around it counted
}

// misplaced is what the reading ends with at a token that can't stand there.
type misplaced struct {
	place int
}

// read is the tree of tokens that are nothing but what is to be read.
func (r *reader) read(what step) (n api.Node, place int, err api.Errno) {
	defer func() {
		x := recover()
		if x == nil {
			return
		}
		m, ok := x.(misplaced)
		if !ok {
			panic(x)
		}
		n, place, err = api.Node{}, m.place, api.ErrSyntax
	}()
	r.then(what, (*reader).end)
	for len(r.todo) > 0 {
		last := len(r.todo) - 1
		next := r.todo[last]
		r.todo = r.todo[:last]
		next(r)
	}
	return r.done[0].node, 0, api.OK
}

// then lays steps ahead of all that is still to be read.
func (r *reader) then(steps ...step) {
	for i := range steps {
		r.todo = append(r.todo, steps[len(steps)-1-i])
	}
}

// wrong ends the reading at the token that comes next.
func (r *reader) wrong() {
	panic(misplaced{r.token().Pos})
}

// token is the token that comes next.
func (r *reader) token() api.Token {
	return r.tokens[r.at]
}

// skip goes on to the next token.
func (r *reader) skip() {
	r.at++
}

// ahead is the mark or the word so many tokens behind the next one; of all else there nothing.
func (r *reader) ahead(n int) string {
	if r.at+n >= len(r.tokens) {
		return ""
	}
	t := r.tokens[r.at+n]
	if t.Kind != api.TokenMark && t.Kind != api.TokenWord {
		return ""
	}
	return t.Text
}

// sign is the mark or the word that comes next; of all else nothing.
func (r *reader) sign() string {
	return r.ahead(0)
}

// take reads a mark or a word that must come next.
func (r *reader) take(sign string) {
	if r.sign() != sign {
		r.wrong()
	}
	r.skip()
}

// name reads a name that must come next.
func (r *reader) name() string {
	t := r.token()
	if t.Kind != api.TokenName {
		r.wrong()
	}
	r.skip()
	return t.Text
}

// begin begins a node with the token that comes next.
func (r *reader) begin(kind int) {
	n := api.Node{Kind: kind, Pos: r.token().Pos}
	r.begun = append(r.begun, begun{node: n, first: len(r.done)})
}

// beginOver begins a node whose first kid was read last.
func (r *reader) beginOver(kind int, str string) {
	first := len(r.done) - 1
	n := api.Node{Kind: kind, Str: str, Pos: r.done[first].start}
	r.begun = append(r.begun, begun{node: n, first: first})
}

// innermost is what was begun last.
func (r *reader) innermost() *begun {
	return &r.begun[len(r.begun)-1]
}

// finish makes all that was read since the innermost node began its kids.
func (r *reader) finish() {
	b := r.leave()
	if kids := r.done[b.first:]; len(kids) > 0 {
		b.node.Kids = make([]api.Node, len(kids))
		for i := range kids {
			b.node.Kids[i] = kids[i].node
		}
	}
	r.done = r.done[:b.first]
	r.lay(b.node)
}

// leave takes away what was begun last.
func (r *reader) leave() begun {
	last := len(r.begun) - 1
	b := r.begun[last]
	r.begun = r.begun[:last]
	return b
}

// lay lays a node that was read behind the others.
func (r *reader) lay(n api.Node) {
	r.done = append(r.done, done{n, n.Pos})
}

// leaf reads a node that is one token.
func (r *reader) leaf(n api.Node) {
	n.Pos = r.token().Pos
	r.skip()
	r.lay(n)
}

// nothing lays what stands for nothing.
func (r *reader) nothing() {
	r.lay(api.Node{Kind: api.NodeNone, Pos: r.token().Pos})
}

// end reads the end of the source.
func (r *reader) end() {
	if r.token().Kind != api.TokenEnd {
		r.wrong()
	}
}

func (r *reader) closeParen() {
	r.take(")")
}

func (r *reader) closeBracket() {
	r.take("]")
}

func (r *reader) closeBrace() {
	r.take("}")
}

func (r *reader) semicolon() {
	r.take(";")
}

package parser

import "crucible/api"

func (r *reader) program() {
	// Its place is 0, whatever comes first.
	r.begun = append(r.begun, begun{node: api.Node{Kind: api.NodeProgram}})
	r.then((*reader).declarations, (*reader).finish)
}

func (r *reader) declarations() {
	if r.token().Kind == api.TokenEnd {
		return
	}
	r.then(r.declaration(), (*reader).declarations)
}

// declaration is how what comes next is to be read at the outermost.
func (r *reader) declaration() step {
	name := 1
	if r.sign() == "struct" {
		if r.ahead(2) == "{" {
			return (*reader).record
		}
		name = 2
	}
	if r.ahead(name+1) == "(" {
		return (*reader).function
	}
	return (*reader).variables
}

func (r *reader) record() {
	r.begin(api.NodeStruct)
	r.take("struct")
	r.innermost().node.Str = r.name()
	r.take("{")
	r.then((*reader).members, (*reader).semicolon, (*reader).finish)
}

func (r *reader) members() {
	if r.sign() == "}" {
		r.skip()
		return
	}
	r.begin(api.NodeVars)
	r.typed()
	r.then((*reader).member, (*reader).moreMembers, (*reader).semicolon, (*reader).finish, (*reader).members)
}

// member reads a variable without an initial value.
func (r *reader) member() {
	r.then((*reader).named, (*reader).finish)
}

func (r *reader) moreMembers() {
	r.more((*reader).member, (*reader).moreMembers)
}

// more reads another one of a list, if a comma comes.
func (r *reader) more(another, others step) {
	if r.sign() == "," {
		r.skip()
		r.then(another, others)
	}
}

func (r *reader) variables() {
	r.begin(api.NodeVars)
	r.typed()
	r.then((*reader).variable, (*reader).moreVariables, (*reader).semicolon, (*reader).finish)
}

func (r *reader) variable() {
	r.then((*reader).named, (*reader).initial, (*reader).finish)
}

func (r *reader) moreVariables() {
	r.more((*reader).variable, (*reader).moreVariables)
}

// named begins a variable: its name, and that it is an array.
func (r *reader) named() {
	r.begin(api.NodeVar)
	v := &r.innermost().node
	v.Str = r.name()
	if r.sign() == "[" {
		v.Flag = true
		r.skip()
		r.then((*reader).perhaps, (*reader).closeBracket)
	}
}

func (r *reader) initial() {
	if r.sign() != "=" {
		return
	}
	r.skip()
	if r.sign() == "{" && r.innermost().node.Flag {
		r.then((*reader).list)
	} else {
		r.then((*reader).expression)
	}
}

func (r *reader) list() {
	r.begin(api.NodeList)
	r.take("{")
	r.then((*reader).expression, (*reader).moreExpressions, (*reader).closeBrace, (*reader).finish)
}

// isType tells whether a type begins with a word.
func isType(word string) bool {
	switch word {
	case "int", "uint", "char", "void", "struct":
		return true
	}
	return false
}

// typed reads a type that must come next.
func (r *reader) typed() {
	word := r.sign()
	if !isType(word) {
		r.wrong()
	}
	n := api.Node{Kind: api.NodeType, Str: word, Pos: r.token().Pos}
	r.skip()
	if word == "struct" {
		n.Str += " " + r.name()
	}
	r.lay(n)
}

func (r *reader) function() {
	r.begin(api.NodeFunc)
	r.typed()
	r.innermost().node.Str = r.name()
	r.take("(")
	r.then((*reader).closeParen, (*reader).block, (*reader).finish)
	if r.sign() != ")" {
		r.then((*reader).parameter, (*reader).moreParameters)
	}
}

func (r *reader) parameter() {
	r.begin(api.NodeParam)
	r.typed()
	p := &r.innermost().node
	if r.sign() == "*" {
		p.Num = 1
		r.skip()
		p.Str = r.name()
	} else {
		p.Str = r.name()
		p.Flag = r.brackets()
	}
	r.finish()
}

// brackets reads the sign of a parameter that is an array, if it comes.
func (r *reader) brackets() bool {
	if r.sign() != "[" {
		return false
	}
	r.skip()
	r.take("]")
	return true
}

func (r *reader) moreParameters() {
	r.more((*reader).parameter, (*reader).moreParameters)
}

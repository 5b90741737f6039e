package check

import (
	"slices"
	"strconv"

	"crucible/api"
)

// inspector looks, with Ck3's words and those of package api, whether a checked program is well typed: it knows nothing of trees.
type inspector struct {
	c   api.Checked
	r   api.Routine
	why string
}

// ill tells what is ill in a checked program; nothing: it is well typed.
func ill(c api.Checked) string {
	p := &inspector{c: c}
	p.globals()
	p.must(c.Main >= 0 && c.Main < len(c.Routines) && c.Routines[c.Main].Name == "main", "main")
	for _, r := range c.Routines {
		p.r = r
		p.must(r.Result <= api.TypeChar && r.Params <= api.MaxParams && r.Params <= len(r.Vars) && len(r.Vars) <= api.MaxLocals && r.Body.Kind == api.TermBlock, "routine")
		for i, v := range r.Vars {
			ref := v.Type.Kind == api.TypeRefArray || v.Type.Kind == api.TypeRefStruct
			p.must(v.At == 0 && v.Type.Kind != api.TypeVoid && (!ref || i < r.Params), "variable")
		}
		p.must(r.Result == api.TypeVoid || endsPlainly(r.Body), "end")
		var declared []int
		p.statement(r.Body, 0, &declared)
		slices.Sort(declared)
		for i, no := range declared {
			p.must(no == r.Params+i, "each variable once")
		}
		p.must(len(declared) == len(r.Vars)-r.Params, "all variables")
	}
	return p.why
}

func (p *inspector) must(ok bool, what string) {
	if !ok && p.why == "" {
		p.why = what
	}
}

// globals: they lie one behind the other, and Data within them, not all 0.
func (p *inspector) globals() {
	at, last, named := 0, -1, true
	for _, g := range p.c.Globals {
		p.must(g.At == at && (named || g.Name == ""), "place of "+g.Name)
		named = named && g.Name != ""
		at += (p.size(g.Type) + 3) / 4 * 4
	}
	p.must(p.c.Size == at && at <= api.MaxGlobal, "size")
	for _, f := range p.c.Data {
		i := slices.IndexFunc(p.c.Globals, func(g api.Var) bool { return g.At == f.At })
		p.must(i > last && len(f.Bytes) <= p.size(p.c.Globals[max(i, 0)].Type) && slices.ContainsFunc([]byte(f.Bytes), func(b byte) bool { return b != 0 }), "data")
		last = i
	}
}

func (p *inspector) size(t api.Type) int {
	switch t.Kind {
	case api.TypeChar:
		return 1
	case api.TypeInt, api.TypeUint:
		return 4
	case api.TypeArray:
		return t.Len * p.size(api.Type{Kind: t.Elem})
	case api.TypeStruct:
		return p.c.Records[t.Struct].Size
	}
	p.must(false, "size of "+strconv.Itoa(t.Kind))
	return 0
}

func (p *inspector) statements(l []api.Term, loops int, declared *[]int) {
	for _, t := range l {
		p.statement(t, loops, declared)
	}
}

func (p *inspector) statement(t api.Term, loops int, declared *[]int) {
	rest := t
	rest.Kind, rest.Kids = 0, nil
	if t.Kind == api.TermDecl {
		rest.Var = 0
	}
	p.must(spell(rest) == spell(api.Term{}), "parts of a statement: "+spell(t))
	n := len(t.Kids)
	switch t.Kind {
	case api.TermBlock:
		p.statements(t.Kids, loops, declared)
	case api.TermEval:
		p.must(n == 1, "eval")
		p.expression(t.Kids[0])
	case api.TermDecl:
		*declared = append(*declared, t.Var)
		v := p.r.Vars[t.Var].Type
		switch v.Kind {
		case api.TypeArray:
			p.must(n <= v.Len, "list")
			p.all(t.Kids, v.Elem)
		case api.TypeStruct:
			p.must(n == 0, "struct")
		default:
			p.must(n <= 1, "scalar")
			p.all(t.Kids, v.Kind)
		}
	case api.TermIf:
		p.must(n == 2 || n == 3, "if")
		p.value(t.Kids[0])
		p.statements(t.Kids[1:], loops, declared)
	case api.TermWhile:
		p.must(n == 2, "while")
		p.value(t.Kids[0])
		p.statement(t.Kids[1], loops+1, declared)
	case api.TermDo:
		p.must(n == 2, "do")
		p.statement(t.Kids[0], loops+1, declared)
		p.value(t.Kids[1])
	case api.TermFor:
		p.must(n == 4, "for")
		for i, k := range t.Kids[:3] {
			if k.Kind != api.TermNone {
				p.expression(k)
				p.must(i != 1 || k.Type != api.TypeVoid, "test")
			}
		}
		p.statement(t.Kids[3], loops+1, declared)
	case api.TermBreak, api.TermContinue:
		p.must(n == 0 && loops > 0, "break")
	case api.TermReturn:
		p.must(n == 1 && p.r.Result != api.TypeVoid || n == 0 && p.r.Result == api.TypeVoid, "return")
		p.all(t.Kids, p.r.Result)
	case api.TermNone:
		p.must(n == 0, "none")
	default:
		p.must(false, "no statement: "+spell(t))
	}
}

// all: expressions of one type.
func (p *inspector) all(l []api.Term, kind int) {
	for _, t := range l {
		p.expression(t)
		p.must(t.Type == kind, "type of "+spell(t))
	}
}

// value: an expression that is not void.
func (p *inspector) value(t api.Term) {
	p.expression(t)
	p.must(t.Type >= api.TypeInt && t.Type <= api.TypeChar, "no value: "+spell(t))
}

// variable is that of a term.
func (p *inspector) variable(t api.Term) api.Type {
	l := p.r.Vars
	if t.Global {
		l = p.c.Globals
	}
	if t.Var < 0 || t.Var >= len(l) {
		p.must(false, "no variable: "+spell(t))
		return api.Type{}
	}
	return l[t.Var].Type
}

func (p *inspector) expression(t api.Term) {
	n := len(t.Kids)
	switch t.Kind {
	case api.TermConst:
		p.must(n == 0 && (t.Type == api.TypeInt || t.Type == api.TypeUint || t.Type == api.TypeChar && t.Imm >= 0 && t.Imm < 256), "const: "+spell(t))
	case api.TermPlace:
		p.must(t.Type == t.Elem && n <= 1, "place")
		p.lies(t, n == 1)
		for _, k := range t.Kids {
			p.value(k)
		}
	case api.TermConv:
		p.must(n == 1 && t.Type != t.Kids[0].Type && t.Type != api.TypeVoid, "conv")
		p.value(t.Kids[0])
	case api.TermAlu:
		p.must(n == 2, "alu")
		p.alu(t)
	case api.TermAnd, api.TermOr:
		p.must(n == 2 && t.Type == api.TypeInt, "and")
		p.value(t.Kids[0])
		p.value(t.Kids[1])
	case api.TermCond:
		p.must(n == 3 && (t.Type == api.TypeInt || t.Type == api.TypeUint), "cond")
		p.value(t.Kids[0])
		p.all(t.Kids[1:], t.Type)
	case api.TermAssign:
		p.must(n == 2 && t.Kids[0].Kind == api.TermPlace, "assign")
		p.assign(t)
	case api.TermGet:
		p.must(n == 0 && t.Type == api.TypeInt, "get")
	case api.TermPut:
		p.must(n == 1 && t.Type == api.TypeVoid, "put")
		p.value(t.Kids[0])
		p.must(t.Kids[0].Type != api.TypeChar, "put of a char")
	case api.TermCall:
		p.call(t)
	default:
		p.must(false, "no expression: "+spell(t))
	}
}

func (p *inspector) alu(t api.Term) {
	a, b := t.Kids[0], t.Kids[1]
	p.value(a)
	p.value(b)
	p.must(a.Type != api.TypeChar && b.Type != api.TypeChar, "alu of a char")
	u := a.Type == api.TypeUint
	switch t.Op {
	case api.AluShl, api.AluShr, api.AluSar:
		p.must(t.Type == a.Type && (t.Op != api.AluShr || u) && (t.Op != api.AluSar || !u), "shift")
	case api.AluEq, api.AluNe, api.AluLt, api.AluLtU, api.AluLe, api.AluLeU:
		p.must(t.Type == api.TypeInt && a.Type == b.Type, "comparison")
		p.must(u || t.Op != api.AluLtU && t.Op != api.AluLeU, "without sign")
		p.must(!u || t.Op != api.AluLt && t.Op != api.AluLe, "with sign")
	case api.AluDiv, api.AluRem:
		p.must(t.Type == a.Type && a.Type == b.Type && !u, "with sign")
	case api.AluDivU, api.AluRemU:
		p.must(t.Type == a.Type && a.Type == b.Type && u, "without sign")
	default:
		p.must(t.Type == a.Type && a.Type == b.Type && t.Op >= api.AluAdd && t.Op <= api.AluXor, "reckoning")
	}
}

func (p *inspector) assign(t api.Term) {
	p.expression(t.Kids[0])
	p.value(t.Kids[1])
	p.must(t.Type == t.Kids[0].Type, "type of an assignment")
	switch t.Op {
	case 0:
		p.must(t.Mid == 0 && t.Kids[1].Type == t.Type, "type that is assigned")
	case api.AluShl, api.AluShr, api.AluSar:
		p.must(t.Kids[1].Type != api.TypeChar && (t.Mid == api.TypeUint) == (t.Type == api.TypeUint), "shifted")
	default:
		p.must(t.Kids[1].Type == t.Mid && (t.Mid == api.TypeInt || t.Mid == api.TypeUint), "in the middle")
	}
}

// lies: a term's bytes are those of a scalar, or of an array, in its variable.
func (p *inspector) lies(t api.Term, array bool) {
	v := p.variable(t)
	if v.Kind == api.TypeStruct || v.Kind == api.TypeRefStruct {
		m := p.c.Records[v.Struct].Members
		i := slices.IndexFunc(m, func(m api.Member) bool { return m.At == t.Field })
		if i < 0 {
			p.must(false, "no member: "+spell(t))
			return
		}
		v = m[i].Type
	} else {
		p.must(t.Field == 0, "field of what is no struct")
	}
	switch v.Kind {
	case api.TypeArray:
		p.must(array && t.Elem == v.Elem && t.Len == v.Len, "array: "+spell(t))
	case api.TypeRefArray:
		p.must(array && t.Elem == v.Elem && t.Len == -1, "reference: "+spell(t))
	default:
		p.must(!array && t.Elem == v.Kind && t.Len == 0 && v.Kind <= api.TypeChar, "scalar: "+spell(t))
	}
}

func (p *inspector) call(t api.Term) {
	f := p.c.Routines[t.Func]
	p.must(len(t.Kids) == f.Params && t.Type == f.Result, "call")
	for i, k := range t.Kids {
		want := f.Vars[i].Type
		switch want.Kind {
		case api.TypeRefArray:
			p.must(k.Kind == api.TermArray && k.Type == api.TypeVoid && k.Elem == want.Elem && len(k.Kids) == 0, "array that is handed on")
			p.lies(k, true)
		case api.TypeRefStruct:
			v := p.variable(k)
			p.must(k.Kind == api.TermStruct && k.Type == api.TypeVoid && v.Struct == want.Struct && (v.Kind == api.TypeStruct || v.Kind == api.TypeRefStruct) && k.Field == 0 && k.Elem == 0 && k.Len == 0, "struct that is handed on")
		default:
			p.all([]api.Term{k}, want.Kind)
		}
	}
}

// endsPlainly is whether a statement ends, straight from the words.
func endsPlainly(t api.Term) bool {
	forever := func(t api.Term) bool { return t.Kind == api.TermConst && t.Imm != 0 }
	switch t.Kind {
	case api.TermReturn:
		return true
	case api.TermBlock:
		return slices.ContainsFunc(t.Kids, endsPlainly)
	case api.TermIf:
		return len(t.Kids) == 3 && endsPlainly(t.Kids[1]) && endsPlainly(t.Kids[2])
	case api.TermWhile:
		return forever(t.Kids[0]) && !leavesPlainly(t.Kids[1])
	case api.TermDo:
		return forever(t.Kids[1]) && !leavesPlainly(t.Kids[0])
	case api.TermFor:
		return (forever(t.Kids[1]) || t.Kids[1].Kind == api.TermNone) && !leavesPlainly(t.Kids[3])
	}
	return false
}

func leavesPlainly(t api.Term) bool {
	switch t.Kind {
	case api.TermBreak:
		return true
	case api.TermBlock, api.TermIf:
		return slices.ContainsFunc(t.Kids, leavesPlainly)
	}
	return false
}

package check

import (
	"slices"
	"strings"

	"crucible/api"
	"crucible/types"
	"crucible/word"
)

// model is a second checker, for small trees: it goes by calls within calls, reckons constants from terms, and ends with a panic.
type model struct {
	out   api.Checked
	heads []modelHead
	local *modelHead // nil outside of bodies
	known []modelName
	loops int
}

type modelHead struct {
	api.Routine
	n                *api.Node
	globals, records int
}

// modelName is a name that is known: the latest that has it counts. Of a block's end there is one without a name.
type modelName struct {
	name string
	no   int
}

// modelled is what Check should answer of a tree that may be.
func modelled(n api.Node) (c api.Checked, d api.Diag, ok bool) {
	defer func() {
		if r := recover(); r != nil {
			c, d, ok = api.Checked{}, r.(api.Diag), false
		}
	}()
	m := &model{}
	for i := range n.Kids {
		m.item(&n.Kids[i])
	}
	m.out.Main = slices.IndexFunc(m.heads, func(h modelHead) bool { return h.Name == "main" && h.Result == api.TypeInt && h.Params == 0 })
	if m.out.Main < 0 {
		panic(api.Diag{Kind: api.DiagType})
	}
	for i := range m.heads {
		m.bodyOf(&m.heads[i])
	}
	at := 0
	for i, g := range m.out.Globals {
		m.out.Globals[i].At = at
		size, _ := types.Size(g.Type, m.out.Records)
		at += (size + 3) / 4 * 4
	}
	if at > 65536 {
		panic(api.Diag{Kind: api.DiagLimit})
	}
	m.out.Size = at
	for i, f := range m.out.Data {
		m.out.Data[i].At = m.out.Globals[f.At].At
	}
	for _, h := range m.heads {
		m.out.Routines = append(m.out.Routines, h.Routine)
	}
	return m.out, api.Diag{}, true
}

func refuse(ok bool, kind int, n *api.Node) {
	if !ok {
		panic(api.Diag{Kind: kind, At: n.Pos})
	}
}

func typed(ok bool, n *api.Node)  { refuse(ok, api.DiagType, n) }
func within(ok bool, n *api.Node) { refuse(ok, api.DiagLimit, n) }

func (m *model) item(n *api.Node) {
	switch n.Kind {
	case api.NodeStruct:
		var l []api.Member
		for i := range n.Kids {
			of := m.typ(&n.Kids[i].Kids[0])
			for j := range n.Kids[i].Kids[1:] {
				v := &n.Kids[i].Kids[1+j]
				t := m.shape(v, of)
				typed(t.Kind != api.TypeStruct, v)
				l = append(l, api.Member{Name: v.Str, Type: t})
			}
		}
		typed(!slices.ContainsFunc(m.out.Records, func(r api.Record) bool { return r.Name == n.Str }), n)
		within(len(l) <= 32, n)
		r, err := types.Layout(n.Str, l)
		typed(err == api.OK, n)
		m.out.Records = append(m.out.Records, r)
	case api.NodeVars:
		of := m.typ(&n.Kids[0])
		for j := range n.Kids[1:] {
			m.global(&n.Kids[1+j], of)
		}
	case api.NodeFunc:
		m.head(n)
	}
}

func (m *model) global(n *api.Node, of api.Type) {
	t := m.shape(n, of)
	var begin []byte
	for _, k := range m.initial(n, t) {
		bits, _ := constantOf(k)
		for i := range map[bool]int{true: 1, false: 4}[k.Type == api.TypeChar] {
			begin = append(begin, byte(bits>>(8*i)))
		}
	}
	typed(!m.used(n.Str), n)
	m.add(n.Str, t, string(begin))
}

func (m *model) add(name string, t api.Type, begin string) {
	if strings.Trim(begin, "\x00") != "" {
		m.out.Data = append(m.out.Data, api.Fill{At: len(m.out.Globals), Bytes: begin})
	}
	m.out.Globals = append(m.out.Globals, api.Var{Name: name, Type: t})
}

func (m *model) used(name string) bool {
	return slices.ContainsFunc(m.out.Globals, func(v api.Var) bool { return v.Name == name }) || m.function(name) >= 0
}

func (m *model) function(name string) int {
	return slices.IndexFunc(m.heads, func(h modelHead) bool { return h.Name == name })
}

func (m *model) head(n *api.Node) {
	h := modelHead{n: n, globals: len(m.out.Globals), records: len(m.out.Records)}
	result := m.typ(&n.Kids[0])
	typed(result.Kind <= api.TypeChar, &n.Kids[0])
	for i := 1; i < len(n.Kids)-1; i++ {
		p := &n.Kids[i]
		t := m.typ(&p.Kids[0])
		number := t.Kind >= api.TypeInt && t.Kind <= api.TypeChar
		if p.Flag && number {
			t = api.Type{Kind: api.TypeRefArray, Elem: t.Kind}
		} else if p.Num == 1 && t.Kind == api.TypeStruct {
			t.Kind = api.TypeRefStruct
		} else {
			typed(number && !p.Flag && p.Num == 0, p)
		}
		for _, v := range h.Vars {
			typed(v.Name != p.Str, p)
		}
		within(i <= 200, p)
		h.Vars = append(h.Vars, api.Var{Name: p.Str, Type: t})
	}
	h.Name, h.Result, h.Params = n.Str, result.Kind, len(h.Vars)
	typed(!m.used(n.Str), n)
	within(len(m.heads) < 256, n)
	within(h.Params <= 6, n)
	m.heads = append(m.heads, h)
}

func (m *model) typ(n *api.Node) api.Type {
	if kind := slices.Index([]string{"void", "int", "uint", "char"}, n.Str); kind >= 0 {
		return api.Type{Kind: kind}
	}
	l := m.out.Records
	if m.local != nil {
		l = l[:m.local.records]
	}
	no := slices.IndexFunc(l, func(r api.Record) bool { return "struct "+r.Name == n.Str })
	typed(no >= 0, n)
	return api.Type{Kind: api.TypeStruct, Struct: no}
}

func (m *model) shape(n *api.Node, of api.Type) api.Type {
	typed(of.Kind != api.TypeVoid, n)
	if !n.Flag {
		return of
	}
	typed(of.Kind != api.TypeStruct, n)
	t := api.Type{Kind: api.TypeArray, Elem: of.Kind}
	length := &n.Kids[0]
	if length.Kind != api.NodeNone {
		k := m.value(length)
		bits, ok := constantOf(k)
		wide := int64(bits)
		if k.Type != api.TypeUint {
			wide = int64(int32(bits))
		}
		typed(ok && wide > 0, length)
		within(wide <= 1024, length)
		t.Len = int(wide)
		return t
	}
	typed(len(n.Kids) == 2 && (n.Kids[1].Kind == api.NodeList || n.Kids[1].Kind == api.NodeString), n)
	t.Len = len(n.Kids[1].Kids)
	if n.Kids[1].Kind == api.NodeString {
		t.Len = len(n.Kids[1].Str) + 1
	}
	within(t.Len <= 1024, n)
	return t
}

// initial are the values of a variable's initial value.
func (m *model) initial(n *api.Node, t api.Type) []api.Term {
	kids := n.Kids
	if n.Flag {
		kids = kids[1:]
	}
	if len(kids) == 0 {
		return nil
	}
	value := &kids[0]
	var l []api.Term
	one := func(k *api.Node, kind int) {
		term := as(m.value(k), kind)
		if m.local == nil {
			_, ok := constantOf(term)
			typed(ok, k)
		}
		l = append(l, term)
	}
	switch {
	case t.Kind <= api.TypeChar:
		one(value, t.Kind)
	case value.Kind == api.NodeList:
		for i := range value.Kids {
			one(&value.Kids[i], t.Elem)
		}
		typed(len(value.Kids) <= t.Len, value)
	case value.Kind == api.NodeString:
		typed(t.Kind == api.TypeArray && t.Elem == api.TypeChar && len(value.Str)+1 <= t.Len, value)
		for _, b := range []byte(value.Str) {
			l = append(l, api.Term{Kind: api.TermConst, Type: api.TypeChar, Imm: int32(b)})
		}
	default:
		m.misfit(value, value)
	}
	return l
}

// misfit ends with what is wrong in a part, or else at the whole.
func (m *model) misfit(part, whole *api.Node) {
	if _, t := m.find(part); t.Kind == api.TypeVoid {
		m.expr(part)
	}
	typed(false, whole)
}

func as(t api.Term, kind int) api.Term {
	if t.Type != kind {
		return api.Term{Kind: api.TermConv, Type: kind, Kids: []api.Term{t}}
	}
	return t
}

func up(kind int) int {
	if kind == api.TypeChar {
		return api.TypeInt
	}
	return kind
}

func pair(a, b api.Term) (api.Term, api.Term, int) {
	kind := api.TypeInt
	if a.Type == api.TypeUint || b.Type == api.TypeUint {
		kind = api.TypeUint
	}
	return as(a, kind), as(b, kind), kind
}

// constantOf is a constant's value; false: it is none.
func constantOf(t api.Term) (bits uint32, ok bool) {
	if !plain(t) {
		return 0, false
	}
	defer func() {
		if recover() != nil {
			bits, ok = 0, false
		}
	}()
	return reckon(t), true
}

func plain(t api.Term) bool {
	switch t.Kind {
	case api.TermConst, api.TermConv, api.TermAlu, api.TermAnd, api.TermOr, api.TermCond:
		return !slices.ContainsFunc(t.Kids, func(k api.Term) bool { return !plain(k) })
	}
	return false
}

func reckon(t api.Term) uint32 {
	switch t.Kind {
	case api.TermConst:
		return uint32(t.Imm)
	case api.TermConv:
		return word.Conv(t.Type, reckon(t.Kids[0]))
	case api.TermCond:
		if reckon(t.Kids[0]) != 0 {
			return reckon(t.Kids[1])
		}
		return reckon(t.Kids[2])
	case api.TermAnd, api.TermOr:
		first := reckon(t.Kids[0])
		if (first != 0) != (t.Kind == api.TermOr) {
			first = reckon(t.Kids[1])
		}
		return min(first, 1)
	}
	bits, trap := word.Alu(t.Op, reckon(t.Kids[0]), reckon(t.Kids[1]))
	if trap != api.TrapNone {
		panic(trap)
	}
	return bits
}

// find is where a variable or a member lies; void: nowhere.
func (m *model) find(n *api.Node) (api.Term, api.Type) {
	if n.Kind == api.NodeName {
		for i := len(m.known) - 1; i >= 0; i-- {
			if m.known[i].name == n.Str {
				return api.Term{Var: m.known[i].no}, m.local.Vars[m.known[i].no].Type
			}
		}
		l := m.out.Globals
		if m.local != nil {
			l = l[:m.local.globals]
		}
		if no := slices.IndexFunc(l, func(v api.Var) bool { return v.Name == n.Str }); no >= 0 {
			return api.Term{Var: no, Global: true}, l[no].Type
		}
		return api.Term{}, api.Type{}
	}
	if n.Kind == api.NodeField || n.Kind == api.NodeArrow {
		want := map[int]int{api.NodeField: api.TypeStruct, api.NodeArrow: api.TypeRefStruct}[n.Kind]
		if n.Kids[0].Kind == api.NodeName {
			if t, whole := m.find(&n.Kids[0]); whole.Kind == want {
				for _, x := range m.out.Records[whole.Struct].Members {
					if x.Name == n.Str {
						t.Field = x.At
						return t, x.Type
					}
				}
			}
		}
	}
	return api.Term{}, api.Type{}
}

// array is where an array lies; no elements' type: it is none.
func (m *model) array(n *api.Node) api.Term {
	t, whole := m.find(n)
	t.Elem, t.Len = whole.Elem, whole.Len
	if whole.Kind == api.TypeRefArray {
		t.Len = -1
	}
	return t
}

func (m *model) value(n *api.Node) api.Term {
	t := m.expr(n)
	typed(t.Type != api.TypeVoid, n)
	return t
}

func (m *model) expr(n *api.Node) api.Term {
	k := func(i int) *api.Node { return &n.Kids[i] }
	number := func(kind int, imm int32) api.Term { return api.Term{Kind: api.TermConst, Type: kind, Imm: imm} }
	switch n.Kind {
	case api.NodeNumber, api.NodeChar:
		if n.Flag {
			return number(api.TypeUint, int32(n.Num))
		}
		return number(api.TypeInt, int32(n.Num))
	case api.NodeName, api.NodeField, api.NodeArrow:
		t, whole := m.find(n)
		if whole.Kind == api.TypeVoid || whole.Kind > api.TypeChar {
			if n.Kind != api.NodeName {
				m.misfit(k(0), n)
			}
			typed(false, n)
		}
		t.Kind, t.Type, t.Elem = api.TermPlace, whole.Kind, whole.Kind
		return t
	case api.NodeIndex:
		t := m.array(k(0))
		if t.Elem == 0 {
			m.misfit(k(0), n)
		}
		t.Kind, t.Type, t.Kids = api.TermPlace, t.Elem, []api.Term{m.value(k(1))}
		return t
	case api.NodeUnary:
		typed(n.Str != "&", n)
		a := m.value(k(0))
		kind := up(a.Type)
		a = as(a, kind)
		switch n.Str {
		case "-":
			return api.Term{Kind: api.TermAlu, Type: kind, Op: api.AluSub, Kids: []api.Term{number(kind, 0), a}}
		case "~":
			return api.Term{Kind: api.TermAlu, Type: kind, Op: api.AluXor, Kids: []api.Term{a, number(kind, -1)}}
		}
		return api.Term{Kind: api.TermAlu, Type: api.TypeInt, Op: api.AluEq, Kids: []api.Term{a, number(kind, 0)}}
	case api.NodeBinary:
		a := m.value(k(0))
		return m.two(n.Str, a, m.value(k(1)))
	case api.NodeLogical:
		kind := map[string]int{"&&": api.TermAnd, "||": api.TermOr}[n.Str]
		a := m.value(k(0))
		return api.Term{Kind: kind, Type: api.TypeInt, Kids: []api.Term{a, m.value(k(1))}}
	case api.NodeCond:
		test := m.value(k(0))
		a := m.value(k(1))
		a, b, kind := pair(a, m.value(k(2)))
		return api.Term{Kind: api.TermCond, Type: kind, Kids: []api.Term{test, a, b}}
	case api.NodeAssign:
		a := m.expr(k(0))
		return m.assign(n.Str, a, m.value(k(1)))
	case api.NodeCast:
		t := m.typ(k(0))
		typed(t.Kind >= api.TypeInt && t.Kind <= api.TypeChar, k(0))
		return as(m.value(k(1)), t.Kind)
	case api.NodeSizeof:
		return number(api.TypeUint, int32(m.sizeof(n)))
	case api.NodeCall:
		return m.call(n)
	}
	panic(api.Diag{Kind: api.DiagType, At: n.Pos})
}

func (m *model) sizeof(n *api.Node) int {
	what := &n.Kids[0]
	var t api.Type
	if what.Kind == api.NodeType {
		t = m.typ(what)
	} else if _, t = m.find(what); t.Kind == api.TypeVoid || t.Kind >= api.TypeRefArray {
		t = api.Type{Kind: m.expr(what).Type}
	}
	size, err := types.Size(t, m.out.Records)
	typed(err == api.OK, n)
	return size
}

// alus are the operators' Alus, with and without sign.
func alus(sign string) [2]int {
	return map[string][2]int{
		"+": {api.AluAdd, api.AluAdd}, "-": {api.AluSub, api.AluSub}, "*": {api.AluMul, api.AluMul}, "/": {api.AluDiv, api.AluDivU}, "%": {api.AluRem, api.AluRemU}, "&": {api.AluAnd, api.AluAnd}, "^": {api.AluXor, api.AluXor}, "|": {api.AluOr, api.AluOr},
		"<<": {api.AluShl, api.AluShl}, ">>": {api.AluSar, api.AluShr}, "==": {api.AluEq, api.AluEq}, "!=": {api.AluNe, api.AluNe}, "<": {api.AluLt, api.AluLtU}, "<=": {api.AluLe, api.AluLeU}, ">": {api.AluLe, api.AluLeU}, ">=": {api.AluLt, api.AluLtU},
	}[sign]
}

func (m *model) two(sign string, a, b api.Term) api.Term {
	var kind int
	if sign == "<<" || sign == ">>" {
		kind = up(a.Type)
		a, b = as(a, kind), as(b, up(b.Type))
	} else {
		a, b, kind = pair(a, b)
	}
	t := api.Term{Kind: api.TermAlu, Type: kind, Op: alus(sign)[kind-api.TypeInt], Kids: []api.Term{a, b}}
	switch sign {
	case "==", "!=", "<", "<=":
		t.Type = api.TypeInt
	case ">", ">=":
		t.Type = api.TypeInt
		return api.Term{Kind: api.TermAlu, Type: api.TypeInt, Op: api.AluEq, Kids: []api.Term{t, {Kind: api.TermConst, Type: api.TypeInt}}}
	}
	return t
}

func (m *model) assign(sign string, a, b api.Term) api.Term {
	t := api.Term{Kind: api.TermAssign, Type: a.Type}
	if sign == "=" {
		t.Kids = []api.Term{a, as(b, a.Type)}
		return t
	}
	sign = sign[:len(sign)-1]
	if sign == "<<" || sign == ">>" {
		t.Mid = up(a.Type)
		b = as(b, up(b.Type))
	} else {
		_, b, t.Mid = pair(a, b)
	}
	t.Op = alus(sign)[t.Mid-api.TypeInt]
	t.Kids = []api.Term{a, b}
	return t
}

func (m *model) call(n *api.Node) api.Term {
	switch n.Str {
	case "getbyte":
		typed(len(n.Kids) == 0, n)
		return api.Term{Kind: api.TermGet, Type: api.TypeInt}
	case "putbyte":
		typed(len(n.Kids) == 1, n)
		a := m.value(&n.Kids[0])
		return api.Term{Kind: api.TermPut, Kids: []api.Term{as(a, up(a.Type))}}
	}
	no := m.function(n.Str)
	hidden := slices.ContainsFunc(m.known, func(k modelName) bool { return k.name == n.Str })
	typed(no >= 0 && m.local != nil && !hidden, n)
	f := m.heads[no]
	typed(len(n.Kids) == f.Params, n)
	t := api.Term{Kind: api.TermCall, Type: f.Result, Func: no}
	for i := range n.Kids {
		t.Kids = append(t.Kids, m.argument(&n.Kids[i], f.Vars[i].Type))
	}
	return t
}

func (m *model) argument(n *api.Node, want api.Type) api.Term {
	switch want.Kind {
	case api.TypeRefArray:
		if n.Kind == api.NodeString && want.Elem == api.TypeChar {
			within(len(n.Str) < 1024, n)
			no := len(m.out.Globals)
			m.add("", api.Type{Kind: api.TypeArray, Elem: api.TypeChar, Len: len(n.Str) + 1}, n.Str+"\x00")
			return api.Term{Kind: api.TermArray, Var: no, Global: true, Elem: api.TypeChar, Len: len(n.Str) + 1}
		}
		t := m.array(n)
		if t.Elem != want.Elem {
			m.misfit(n, n)
		}
		t.Kind = api.TermArray
		return t
	case api.TypeRefStruct:
		name, kind := n, api.TypeRefStruct
		if n.Kind == api.NodeUnary {
			name, kind = &n.Kids[0], api.TypeStruct
		}
		t, got := m.find(name)
		if name.Kind != api.NodeName || got.Kind != kind || got.Struct != want.Struct || n.Kind == api.NodeUnary && n.Str != "&" {
			m.misfit(n, n)
		}
		t.Kind = api.TermStruct
		return t
	}
	return as(m.value(n), want.Kind)
}

func (m *model) bodyOf(h *modelHead) {
	m.local, m.known, m.loops = h, nil, 0
	for i, v := range h.Vars {
		m.known = append(m.known, modelName{v.Name, i})
	}
	h.Body = m.statements(h.n.Kids[len(h.n.Kids)-1].Kids)
	typed(h.Result == api.TypeVoid || endsPlainly(h.Body), h.n)
	sum := 0
	for _, v := range h.Vars {
		size, _ := types.Size(v.Type, m.out.Records)
		sum += (size + 3) / 4 * 4
	}
	within(sum <= 65536, h.n)
}

func (m *model) statements(l []api.Node) api.Term {
	t := api.Term{Kind: api.TermBlock}
	for i := range l {
		if l[i].Kind != api.NodeVars {
			t.Kids = append(t.Kids, m.statement(&l[i]))
			continue
		}
		of := m.typ(&l[i].Kids[0])
		for j := range l[i].Kids[1:] {
			t.Kids = append(t.Kids, m.declare(&l[i].Kids[1+j], of))
		}
	}
	return t
}

func (m *model) declare(n *api.Node, of api.Type) api.Term {
	t := m.shape(n, of)
	no := 0
	kids := m.initial(n, t)
	for i := len(m.known) - 1; i >= 0 && m.known[i].name != ""; i-- {
		typed(m.known[i].name != n.Str, n)
	}
	within(len(m.local.Vars) < 200, n)
	no = len(m.local.Vars)
	m.known = append(m.known, modelName{n.Str, no})
	m.local.Vars = append(m.local.Vars, api.Var{Name: n.Str, Type: t})
	return api.Term{Kind: api.TermDecl, Var: no, Kids: kids}
}

func (m *model) statement(n *api.Node) api.Term {
	t := api.Term{Kind: map[int]int{
		api.NodeEval: api.TermEval, api.NodeIf: api.TermIf, api.NodeWhile: api.TermWhile, api.NodeDo: api.TermDo, api.NodeFor: api.TermFor,
		api.NodeBreak: api.TermBreak, api.NodeContinue: api.TermContinue, api.NodeReturn: api.TermReturn, api.NodeNone: api.TermNone,
	}[n.Kind]}
	add := func(k api.Term) { t.Kids = append(t.Kids, k) }
	loop := func(i int) {
		m.loops++
		add(m.statement(&n.Kids[i]))
		m.loops--
	}
	switch n.Kind {
	case api.NodeBlock:
		was := len(m.known)
		m.known = append(m.known, modelName{})
		t = m.statements(n.Kids)
		m.known = m.known[:was]
	case api.NodeEval:
		add(m.expr(&n.Kids[0]))
	case api.NodeIf:
		add(m.value(&n.Kids[0]))
		for i := range n.Kids[1:] {
			add(m.statement(&n.Kids[1+i]))
		}
	case api.NodeWhile:
		add(m.value(&n.Kids[0]))
		loop(1)
	case api.NodeDo:
		loop(0)
		add(m.value(&n.Kids[1]))
	case api.NodeFor:
		for i := range 3 {
			k := &n.Kids[i]
			switch {
			case k.Kind == api.NodeNone:
				add(api.Term{Kind: api.TermNone})
			case i == 1:
				add(m.value(k))
			default:
				add(m.expr(k))
			}
		}
		loop(3)
	case api.NodeBreak, api.NodeContinue:
		typed(m.loops > 0, n)
	case api.NodeReturn:
		void := m.local.Result == api.TypeVoid
		if len(n.Kids) == 1 {
			k := m.expr(&n.Kids[0])
			typed(!void, n)
			typed(k.Type != api.TypeVoid, &n.Kids[0])
			add(as(k, m.local.Result))
		} else {
			typed(void, n)
		}
	}
	return t
}

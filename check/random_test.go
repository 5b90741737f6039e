package check

import (
	"math/rand"
	"reflect"
	"slices"
	"strconv"
	"strings"
	"testing"

	"crucible/api"
	"crucible/ast"
	"crucible/parser"
)

// maker makes random trees: mostly of what may stand there, now and then of anything.
type maker struct {
	*rand.Rand
	wild    int // of so many choices about one is any
	structs []api.Record
	globals []api.Var
	funcs   []api.Routine
	vars    []api.Var // of the function, those that are known
	result  int
	loops   int
}

func (g *maker) strange() bool { return g.wild > 0 && g.Intn(g.wild) == 0 }

func pick[T any](g *maker, l ...T) T { return l[g.Intn(len(l))] }

var someNames = strings.Fields("a b c d e f g h s t main x y z")

func (g *maker) name() string { return pick(g, someNames...) }

func typeNode(t api.Type, l []api.Record) api.Node {
	if t.Kind == api.TypeStruct || t.Kind == api.TypeRefStruct {
		return node(api.NodeType, "struct "+l[t.Struct].Name)
	}
	kind := t.Kind
	if t.Elem != 0 {
		kind = t.Elem
	}
	return node(api.NodeType, typeNames[kind])
}

func (g *maker) scalar() api.Type { return api.Type{Kind: 1 + g.Intn(3)} }

func (g *maker) typ() api.Node {
	return node(api.NodeType, pick(g, "int", "uint", "char", "void", "struct "+g.name()))
}

// known are the variables of which a question holds, by their nodes.
func (g *maker) known(holds func(t api.Type) bool) []api.Node {
	var l []api.Node
	for _, from := range [][]api.Var{g.globals, g.vars} {
		for _, v := range from {
			if holds(v.Type) {
				l = append(l, node(api.NodeName, v.Name))
			}
			if v.Type.Kind != api.TypeStruct && v.Type.Kind != api.TypeRefStruct {
				continue
			}
			kind := api.NodeField
			if v.Type.Kind == api.TypeRefStruct {
				kind = api.NodeArrow
			}
			for _, m := range g.structs[v.Type.Struct].Members {
				if holds(m.Type) {
					l = append(l, node(kind, m.Name, node(api.NodeName, v.Name)))
				}
			}
		}
	}
	return l
}

// one is any of several nodes, or a name that may be none.
func (g *maker) one(l []api.Node) api.Node {
	if len(l) == 0 || g.strange() {
		return node(api.NodeName, g.name())
	}
	return pick(g, l...)
}

func isArray(t api.Type) bool { return t.Kind == api.TypeArray || t.Kind == api.TypeRefArray }

func isScalar(t api.Type) bool { return t.Kind <= api.TypeChar }

func (g *maker) place(depth int) api.Node {
	arrays, scalars := g.known(isArray), g.known(isScalar)
	if len(arrays) > 0 && (len(scalars) == 0 || g.Intn(2) == 0) {
		return node(api.NodeIndex, "", g.one(arrays), g.value(depth-1))
	}
	return g.one(scalars)
}

func (g *maker) noPlaces() bool {
	return len(g.known(isArray))+len(g.known(isScalar)) == 0 && !g.strange()
}

func (g *maker) number() api.Node {
	n := api.Node{Kind: api.NodeNumber, Num: pick[uint32](g, 0, 1, 2, 3, 7, 255, 256, 1024, 1025, 1<<31-1, 1<<31, 1<<32-1)}
	n.Flag = n.Num >= 1<<31 || g.Intn(4) == 0
	return n
}

// constant is an expression that is likely to be one.
func (g *maker) constant(depth int) api.Node {
	if depth <= 0 {
		return g.number()
	}
	k := func() api.Node { return g.constant(depth - 1 - g.Intn(2)) }
	switch g.Intn(10) {
	case 0:
		return node(api.NodeUnary, pick(g, "-", "~", "!"), k())
	case 1, 2:
		return node(api.NodeBinary, g.sign(), k(), k())
	case 3:
		return node(api.NodeLogical, pick(g, "&&", "||"), k(), k())
	case 4:
		return node(api.NodeCond, "", k(), k(), k())
	case 5:
		return node(api.NodeCast, "", typeNode(g.scalar(), nil), k())
	case 6:
		return g.sizeof(depth)
	case 7:
		return api.Node{Kind: api.NodeChar, Num: uint32(g.Intn(256))}
	case 8:
		if g.strange() {
			return g.value(depth - 1)
		}
	}
	return g.number()
}

func (g *maker) sign() string {
	return pick(g, strings.Fields("* / % + - << >> < > <= >= == != & ^ |")...)
}

func (g *maker) sizeof(depth int) api.Node {
	switch g.Intn(3) {
	case 0:
		return node(api.NodeSizeof, "", typeNode(g.scalar(), nil))
	case 1:
		if l := g.known(func(t api.Type) bool { return t.Kind < api.TypeRefArray }); len(l) > 0 {
			return node(api.NodeSizeof, "", g.one(l))
		}
	}
	return node(api.NodeSizeof, "", g.value(depth-1))
}

func (g *maker) value(depth int) api.Node {
	if g.strange() {
		return g.anything(depth)
	}
	if g.noPlaces() || depth <= 0 && g.Intn(2) == 0 || depth < -3 {
		return g.number()
	}
	if depth <= 0 {
		return g.place(depth)
	}
	k := func() api.Node { return g.value(depth - 1 - g.Intn(2)) }
	switch g.Intn(12) {
	case 0:
		return node(api.NodeUnary, pick(g, "-", "~", "!"), k())
	case 1, 2:
		return node(api.NodeBinary, g.sign(), k(), k())
	case 3:
		return node(api.NodeLogical, pick(g, "&&", "||"), k(), k())
	case 4:
		return node(api.NodeCond, "", k(), k(), k())
	case 5:
		return node(api.NodeCast, "", typeNode(g.scalar(), nil), k())
	case 6:
		return g.sizeof(depth)
	case 7, 8:
		return node(api.NodeAssign, pick(g, strings.Fields("= += -= *= /= %= &= |= ^= <<= >>=")...), g.place(depth-1), k())
	case 9:
		return g.call(depth-1, false)
	}
	return g.place(depth)
}

// anything is an expression that is likely to be wrong.
func (g *maker) anything(depth int) api.Node {
	k := func() api.Node { return g.value(depth - 2) }
	switch g.Intn(12) {
	case 0:
		return node(api.NodeString, pick(g, "", "ab"))
	case 1:
		return node(api.NodeUnary, "&", k())
	case 2:
		return node(api.NodeField, g.name(), pick(g, k(), node(api.NodeName, g.name())))
	case 3:
		return node(api.NodeArrow, g.name(), pick(g, k(), node(api.NodeName, g.name())))
	case 4:
		return node(api.NodeIndex, "", k(), k())
	case 5:
		return node(api.NodeCall, pick(g, g.name(), "getbyte", "putbyte"), k())
	case 6:
		return node(api.NodeCall, pick(g, g.name(), "getbyte", "putbyte"))
	case 7:
		return node(api.NodeCast, "", g.typ(), k())
	case 8:
		return node(api.NodeSizeof, "", g.typ())
	case 9:
		return g.call(depth, true)
	}
	return node(api.NodeName, g.name())
}

func (g *maker) call(depth int, void bool) api.Node {
	if g.Intn(4) == 0 {
		if void {
			return node(api.NodeCall, "putbyte", g.value(depth))
		}
		return node(api.NodeCall, "getbyte")
	}
	var l []api.Routine
	for _, f := range g.funcs {
		hides := func(v api.Var) bool { return v.Name == f.Name }
		if (void || f.Result != api.TypeVoid) && (!slices.ContainsFunc(g.vars, hides) || g.strange()) {
			l = append(l, f)
		}
	}
	if len(l) == 0 || g.result < 0 {
		return node(api.NodeCall, "getbyte")
	}
	f := pick(g, l...)
	n := node(api.NodeCall, f.Name)
	for i := range f.Params {
		k := g.argument(f.Vars[i].Type, depth)
		if k.Kind == 0 {
			return node(api.NodeCall, "getbyte")
		}
		n.Kids = append(n.Kids, k)
	}
	if g.strange() {
		n.Kids = append(n.Kids, g.value(0))
	}
	return n
}

func (g *maker) argument(t api.Type, depth int) api.Node {
	if g.strange() {
		return g.anything(depth)
	}
	switch t.Kind {
	case api.TypeRefArray:
		l := g.known(func(k api.Type) bool { return isArray(k) && k.Elem == t.Elem })
		if t.Elem == api.TypeChar && (len(l) == 0 || g.Intn(3) == 0) {
			return node(api.NodeString, pick(g, "", "ab", "\x00", "xyz"))
		}
		return g.oneOrNone(l)
	case api.TypeRefStruct:
		l := g.known(func(k api.Type) bool { return k.Kind == api.TypeRefStruct && k.Struct == t.Struct })
		for _, k := range g.known(func(k api.Type) bool { return k.Kind == api.TypeStruct && k.Struct == t.Struct }) {
			l = append(l, node(api.NodeUnary, "&", k))
		}
		return g.oneOrNone(l)
	}
	return g.value(depth)
}

// oneOrNone likewise, but of no node most often the zero one.
func (g *maker) oneOrNone(l []api.Node) api.Node {
	if len(l) == 0 && !g.strange() {
		return api.Node{}
	}
	return g.one(l)
}

// fresh is a name that none of the lists has, most often.
func (g *maker) fresh(lists ...[]api.Var) string {
	name := g.name()
	for range 20 {
		used := name == "main" && !g.strange()
		for _, l := range lists {
			for _, v := range l {
				used = used || v.Name == name
			}
		}
		for _, f := range g.funcs {
			used = used || f.Name == name && g.result < 0
		}
		if !used || g.strange() {
			return name
		}
		name = g.name()
	}
	return name + strconv.Itoa(g.Intn(1000))
}

// variable is a NodeVar of a type, and what it is likely to be.
func (g *maker) variable(name string, t api.Type, bare bool) (api.Node, api.Type) {
	n := node(api.NodeVar, name)
	value := func() api.Node {
		if g.result < 0 {
			return g.constant(2)
		}
		return g.value(2)
	}
	if t.Kind <= api.TypeChar && g.Intn(3) == 0 {
		t = api.Type{Kind: api.TypeArray, Elem: t.Kind, Len: 1 + g.Intn(4)}
		n.Flag = true
		n.Kids = []api.Node{{Kind: api.NodeNumber, Num: uint32(t.Len)}}
		if g.strange() {
			n.Kids[0] = g.constant(2)
		}
	}
	if bare || g.Intn(2) == 0 || t.Kind == api.TypeStruct && !g.strange() {
		return n, t
	}
	switch {
	case n.Flag && t.Elem == api.TypeChar && g.Intn(2) == 0 || g.strange():
		n.Kids = append(n.Kids, node(api.NodeString, "abcd"[:min(4, max(0, t.Len-1+g.extra()))]))
	case n.Flag:
		list := node(api.NodeList, "")
		for range 1 + g.Intn(max(1, t.Len+g.extra())) {
			list.Kids = append(list.Kids, value())
		}
		n.Kids = append(n.Kids, list)
		if g.strange() {
			n.Kids[1] = g.value(2)
		}
	default:
		n.Kids = append(n.Kids, value())
	}
	if n.Flag && (g.strange() || n.Kids[1].Kind == api.NodeList && g.Intn(4) == 0) {
		n.Kids[0] = node(api.NodeNone, "")
		t.Len = len(n.Kids[1].Kids)
	}
	return n, t
}

func (g *maker) extra() int {
	if g.strange() {
		return g.Intn(3)
	}
	return 0
}

func (g *maker) statement(depth int) api.Node {
	inner := func() api.Node { return g.statement(depth - 1) }
	loop := func() api.Node {
		g.loops++
		defer func() { g.loops-- }()
		return g.statement(depth - 1)
	}
	if depth <= 0 {
		return g.leaf()
	}
	switch g.Intn(9) {
	case 0:
		first := inner()
		if opens(first) {
			first = node(api.NodeBlock, "", first)
		}
		test := g.value(2)
		return node(api.NodeIf, "", test, first, inner())
	case 1:
		test := g.value(2)
		return node(api.NodeIf, "", test, inner())
	case 2:
		test := g.test()
		return node(api.NodeWhile, "", test, loop())
	case 3:
		body := loop()
		return node(api.NodeDo, "", body, g.test())
	case 4:
		parts := []api.Node{node(api.NodeNone, ""), node(api.NodeNone, ""), node(api.NodeNone, "")}
		for i := range parts {
			if g.Intn(2) == 0 {
				parts[i] = g.test()
				if i != 1 && g.Intn(3) == 0 {
					parts[i] = g.call(1, true)
				}
			}
		}
		return node(api.NodeFor, "", append(parts, loop())...)
	case 5, 6:
		return g.block(depth - 1)
	}
	return g.leaf()
}

func (g *maker) test() api.Node {
	if g.Intn(3) == 0 {
		return g.number()
	}
	return g.value(2)
}

func opens(n api.Node) bool {
	p := node(api.NodeIf, "", node(api.NodeNumber, ""), n, node(api.NodeNone, ""))
	return ast.Check(program([]api.Node{p})) != api.OK
}

func (g *maker) leaf() api.Node {
	switch g.Intn(10) {
	case 0:
		return node(api.NodeNone, "")
	case 1, 2:
		if g.loops > 0 || g.strange() {
			return node(pick(g, api.NodeBreak, api.NodeContinue), "")
		}
	case 3:
		if g.result == api.TypeVoid && !g.strange() || g.strange() {
			return node(api.NodeReturn, "")
		}
		return node(api.NodeReturn, "", g.value(2))
	case 4, 5:
		return node(api.NodeEval, "", g.call(2, true))
	}
	return node(api.NodeEval, "", g.value(3))
}

func (g *maker) block(depth int) api.Node {
	was := len(g.vars)
	n := node(api.NodeBlock, "", g.statements(depth)...)
	g.vars = g.vars[:was:was]
	return n
}

func (g *maker) statements(depth int) []api.Node {
	var l []api.Node
	first := len(g.vars)
	for range g.Intn(4) {
		if g.Intn(3) != 0 {
			l = append(l, g.statement(depth))
			continue
		}
		t := g.anyType()
		n := node(api.NodeVars, "", typeNode(t, g.structs))
		if g.strange() {
			n.Kids[0] = g.typ()
		}
		for range 1 + g.Intn(2) {
			name := g.fresh(g.vars[first:])
			v, whole := g.variable(name, t, false)
			n.Kids = append(n.Kids, v)
			g.vars = append(g.vars, api.Var{Name: name, Type: whole})
		}
		l = append(l, n)
	}
	return l
}

func (g *maker) anyType() api.Type {
	if len(g.structs) > 0 && g.Intn(4) == 0 {
		return api.Type{Kind: api.TypeStruct, Struct: g.Intn(len(g.structs))}
	}
	return g.scalar()
}

// program is a random tree of several items.
func (g *maker) program() api.Node {
	p := node(api.NodeProgram, "")
	g.result = -1
	mains := g.Intn(4)
	for i := range 1 + g.Intn(6) {
		switch {
		case i == mains && !g.strange():
			p.Kids = append(p.Kids, g.function("main"))
		case g.Intn(4) == 0:
			p.Kids = append(p.Kids, g.structure())
		case g.Intn(2) == 0:
			p.Kids = append(p.Kids, g.globalVars())
		default:
			p.Kids = append(p.Kids, g.function(g.fresh(g.globals)))
		}
	}
	if mains >= len(p.Kids) && !g.strange() {
		p.Kids = append(p.Kids, g.function("main"))
	}
	return p
}

func (g *maker) structure() api.Node {
	r := api.Record{Name: "s" + strconv.Itoa(len(g.structs))}
	if g.strange() {
		r.Name = g.name()
	}
	n := node(api.NodeStruct, r.Name)
	for range 1 + g.Intn(3) {
		t := g.scalar()
		name := "abcdefgh"[len(r.Members) : len(r.Members)+1]
		if g.strange() {
			name = g.name()
		}
		v, whole := g.variable(name, t, true)
		vars := node(api.NodeVars, "", typeNode(t, nil), v)
		if g.strange() {
			vars.Kids[0] = g.typ()
		}
		r.Members = append(r.Members, api.Member{Name: name, Type: whole})
		n.Kids = append(n.Kids, vars)
	}
	if g.strange() {
		n.Kids = nil
	}
	g.structs = append(g.structs, r)
	return n
}

func (g *maker) globalVars() api.Node {
	t := g.anyType()
	n := node(api.NodeVars, "", typeNode(t, g.structs))
	if g.strange() {
		n.Kids[0] = g.typ()
	}
	for range 1 + g.Intn(2) {
		name := g.fresh(g.globals)
		v, whole := g.variable(name, t, false)
		n.Kids = append(n.Kids, v)
		g.globals = append(g.globals, api.Var{Name: name, Type: whole})
	}
	return n
}

func (g *maker) function(name string) api.Node {
	f := api.Routine{Name: name, Result: g.Intn(4)}
	if name == "main" && !g.strange() {
		f.Result = api.TypeInt
	} else {
		f.Params = g.Intn(4)
	}
	n := node(api.NodeFunc, name, typeNode(api.Type{Kind: f.Result}, nil))
	if g.strange() {
		n.Kids[0] = g.typ()
	}
	for range f.Params {
		v := api.Var{Name: g.fresh(f.Vars), Type: g.anyType()}
		p := node(api.NodeParam, v.Name, typeNode(v.Type, g.structs))
		switch {
		case v.Type.Kind == api.TypeStruct:
			v.Type.Kind = api.TypeRefStruct
			p.Num = 1
		case g.Intn(2) == 0:
			v.Type = api.Type{Kind: api.TypeRefArray, Elem: v.Type.Kind}
			p.Flag = true
		}
		if g.strange() {
			p.Flag, p.Num = !p.Flag, 0
		}
		f.Vars = append(f.Vars, v)
		n.Kids = append(n.Kids, p)
	}
	g.funcs = append(g.funcs, f)
	g.vars, g.result, g.loops = f.Vars[:f.Params:f.Params], f.Result, 0
	body := node(api.NodeBlock, "", g.statements(3)...)
	switch {
	case g.strange():
	case f.Result != api.TypeVoid:
		body.Kids = append(body.Kids, node(api.NodeReturn, "", g.value(2)))
	}
	g.vars, g.result = nil, -1
	n.Kids = append(n.Kids, body)
	return n
}

// placed gives each node a place of its own.
func placed(n *api.Node, r *rand.Rand) {
	size := 0
	eachNode(n, func(*api.Node) { size++ })
	places := r.Perm(size)
	eachNode(n, func(n *api.Node) {
		n.Pos = places[0] + 1
		places = places[1:]
	})
}

func dump(n api.Node) string {
	text, _ := ast.Print(n)
	return text
}

// Ck1, Ck3: random trees, whose places are all unlike, held against the model.
func TestAgainstModel(t *testing.T) {
	r := rand.New(rand.NewSource(12))
	right, told := 0, map[int]int{}
	for i := range 30000 {
		g := &maker{Rand: r, wild: []int{0, 300, 60, 20}[i%4]}
		n := g.program()
		placed(&n, r)
		if ast.Check(n) != api.OK {
			t.Fatalf("no tree: %+v", n)
		}
		want, wantDiag, wantOk := modelled(n)
		c, d, ok := Check(n)
		if len(c.Globals) == 0 {
			c.Globals = nil // an empty list is the same
		}
		if ok != wantOk || d != wantDiag || !reflect.DeepEqual(c, want) {
			t.Fatalf("%s: %+v, %v, not %+v, %v\n%+v\nnot\n%+v", dump(n), d, ok, wantDiag, wantOk, c, want)
		}
		if ok {
			right++
			if why := ill(c); why != "" {
				t.Fatalf("%s: ill: %s", dump(n), why)
			}
		}
		told[d.Kind]++
	}
	if right < 10000 || told[api.DiagType] < 10000 {
		t.Errorf("%d right, told %v", right, told)
	}
}

// Ck3: of what is told, only At hangs on blanks, comments and parentheses.
func TestBlanksChangePlacesAlone(t *testing.T) {
	r := rand.New(rand.NewSource(13))
	read := 0
	for i := range 4000 {
		g := &maker{Rand: r, wild: []int{0, 100, 30}[i%3]}
		n := g.program()
		placed(&n, r)
		text, err := ast.Print(n)
		if err != api.OK {
			continue
		}
		c, d, ok := Check(n)
		lines := strings.Split(text, "\n")
		for i := range lines {
			lines[i] += pick(g, "\n", " /* x\n*/ ", "\t// y\n", "\n\n \r\n")
		}
		for _, src := range []string{text, strings.Join(lines, ""), " " + text, "/**/" + text} {
			if _, _, err := parser.Parse(src); err != api.OK {
				continue
			}
			read++
			c2, d2, ok2 := Source(src)
			if ok2 != ok || d2.Kind != d.Kind || !reflect.DeepEqual(c, c2) {
				t.Fatalf("%s: %+v, %v, not %+v, %v", src, d2, ok2, d, ok)
			}
		}
	}
	if read < 14000 {
		t.Errorf("only %d were read", read)
	}
}

// renamed is a tree in which a name is another one everywhere: of variables, functions, members and structs.
func renamed(n api.Node, from, to string) api.Node {
	n.Kids = append([]api.Node(nil), n.Kids...)
	switch {
	case n.Kind == api.NodeString:
	case n.Str == from:
		n.Str = to
	case n.Kind == api.NodeType && n.Str == "struct "+from:
		n.Str = "struct " + to
	}
	for i := range n.Kids {
		n.Kids[i] = renamed(n.Kids[i], from, to)
	}
	return n
}

func renamedProgram(c api.Checked, from, to string) {
	name := func(s *string) {
		if *s == from {
			*s = to
		}
	}
	for i := range c.Records {
		name(&c.Records[i].Name)
		for j := range c.Records[i].Members {
			name(&c.Records[i].Members[j].Name)
		}
	}
	for i := range c.Globals {
		name(&c.Globals[i].Name)
	}
	for i := range c.Routines {
		name(&c.Routines[i].Name)
		for j := range c.Routines[i].Vars {
			name(&c.Routines[i].Vars[j].Name)
		}
	}
}

// Ck3: a name that is another one everywhere changes nothing but that name.
func TestRenamed(t *testing.T) {
	r := rand.New(rand.NewSource(14))
	for i := range 4000 {
		g := &maker{Rand: r, wild: []int{0, 100, 30}[i%3]}
		n := g.program()
		placed(&n, r)
		for _, from := range []string{"a", "b", "f", "s0", "x"} {
			c, d, ok := Check(n)
			c2, d2, ok2 := Check(renamed(n, from, "another_1"))
			renamedProgram(c, from, "another_1")
			if ok2 != ok || d2 != d || !reflect.DeepEqual(c, c2) {
				t.Fatalf("%s: %s is another name: %+v, %v, not %+v, %v", dump(n), from, d2, ok2, d, ok)
			}
		}
	}
}

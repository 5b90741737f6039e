package lower

import (
	"reflect"
	"slices"
	"sort"
	"testing"
	"unsafe"

	"crucible/api"
	"crucible/check"
	"crucible/ir"
	"crucible/irrun"
)

// Lo1: a function for each routine, of its name, in their order, with its parameters; the globals; which is main.
func TestShape(t *testing.T) {
	src := `struct s { char a; char b[2]; }; char g = 7; struct s v; char e[5] = "ab"; int z; uint u[2];
void none() { } int one(int a) { return a; } int three(char a, uint b[], struct s *p) { return a; }
int most(int a[], int b[], char c[], char d[], uint e[], uint f[]) { return a[0]; }
int main() { none(); int w[3]; char x; struct s y; return most(w, w, e, "x", u, u); }
void last(struct s *p, struct s *q, char c, int d[]) { char k[5], l[6]; }`
	p := made(t, src, checked(t, src))
	names, params, slots := []string{"none", "one", "three", "most", "main", "last"}, []int{0, 1, 4, 12, 0, 5}, []int{0, 0, 0, 0, 16, 16}
	if len(p.Funcs) != len(names) {
		t.Fatalf("%d functions", len(p.Funcs))
	}
	for i, f := range p.Funcs {
		if f.Name != names[i] || f.Params != params[i] || f.Slots != slots[i] {
			t.Errorf("function %d: %s, %d, %d; not %s, %d, %d", i, f.Name, f.Params, f.Slots, names[i], params[i], slots[i])
		}
	}
	if p.Main != 4 {
		t.Errorf("Main %d", p.Main)
	}
}

// Lo1: Global is a multiple of 4, whatever Size is.
func TestGlobal(t *testing.T) {
	for src, want := range map[string]int{
		"int main() { return 0; }":                                   0,
		"char c; int main() { return 0; }":                           4,
		"char c[5], d; int main() { return 0; }":                     12,
		"void f(char a[]) { } int main() { f(\"1234\"); return 0; }": 8,
	} {
		if p := made(t, src, checked(t, src)); p.Global != want {
			t.Errorf("%s: %d", src, p.Global)
		}
	}
	c := checked(t, "int main() { return 0; }")
	c.Size = 5
	if p := made(t, "a size of 5", c); p.Global != 8 {
		t.Errorf("a size of 5: %d", p.Global)
	}
}

// Lo1: Data are those of the program, as it was checked.
func TestData(t *testing.T) {
	src := `int a = 5; char b; char c[4] = "xy"; int d[3] = {0, 258}; uint e = 0; void f(char s[]) { } int main() { f("qr"); f(""); return a; }`
	c := checked(t, src)
	p := made(t, src, c)
	if len(c.Data) != 4 || !slices.Equal(p.Data, c.Data) || p.Main != c.Main {
		t.Errorf("%+v, main %d; not %+v, %d", p.Data, p.Main, c.Data, c.Main)
	}
}

// Lo1: parameters come in the registers that the words say: what is called by hand gets them.
func TestParameters(t *testing.T) {
	src := `struct s { int i; int j; }; struct s v; int a[3] = {5, 6, 7};
int f(char c, int l[], struct s *p, uint u) { p->j = l[2]; l[1] = c; return l[u]; } int main() { return f(0, a, &v, 0); }`
	p := made(t, src, checked(t, src))
	code := []api.Instr{
		{Op: api.OpConst, Dst: 0, Imm: 9},
		{Op: api.OpGlobal, Dst: 1, Imm: 8},
		{Op: api.OpConst, Dst: 2, Imm: 3},
		{Op: api.OpGlobal, Dst: 3, Imm: 0},
		{Op: api.OpConst, Dst: 4, Imm: 1},
		{Op: api.OpCall, Dst: 5, Args: []int{0, 1, 2, 3, 4}, Imm: 0},
		{Op: api.OpLoad, Dst: 6, Args: []int{3}, Imm: 4, Wide: 4},
		{Op: api.OpPut, Dst: -1, Args: []int{6}},
	}
	p.Funcs[1] = api.Func{Name: "main", Regs: 7, Blocks: []api.Block{{Code: code, End: api.EndReturn, Arg: 5}}}
	if e := irrun.Run(p, "", plenty, 9); e != exit(9, "\x07") {
		t.Errorf("%+v", e)
	}
	p.Funcs[1].Blocks[0].Code[2].Imm = 2 // so many elements
	if e := irrun.Run(p, "", plenty, 9); e != trapped(api.TrapBounds, "") {
		t.Errorf("of two elements: %+v", e)
	}
}

// Lo1, as the layers above need it: no OpPhi, and no block that is not reached.
func TestForPasses(t *testing.T) {
	for seed := range int64(500) {
		src, c, ok := randomChecked(seed)
		if !ok {
			continue
		}
		for _, f := range made(t, src, c).Funcs {
			if slices.Contains(ir.Reached(f), false) {
				t.Fatalf("%s: %s has blocks that are not reached", src, f.Name)
			}
			for _, b := range f.Blocks {
				if slices.ContainsFunc(b.Code, func(x api.Instr) bool { return x.Op == api.OpPhi }) {
					t.Fatalf("%s: an OpPhi", src)
				}
			}
		}
	}
}

// R3 and R4: the argument is as it was, and what is told hangs on it alone.
func TestUnchanged(t *testing.T) {
	for seed := range int64(300) {
		src, c, ok := randomChecked(seed)
		if !ok {
			continue
		}
		again, _, _ := check.Source(src)
		a := made(t, src, c)
		if !reflect.DeepEqual(c, again) {
			t.Fatalf("%s: the program was changed", src)
		}
		b := made(t, src, again)
		if !slices.EqualFunc(a.Funcs, b.Funcs, ir.Same) || a.Global != b.Global || a.Main != b.Main || !slices.Equal(a.Data, b.Data) {
			t.Fatalf("%s: another one is told", src)
		}
	}
}

// region is memory from one byte up to another.
type region struct{ from, to uintptr }

func regionOf[T any](l []T) region {
	from := uintptr(unsafe.Pointer(unsafe.SliceData(l)))
	var x T
	return region{from, from + uintptr(cap(l))*unsafe.Sizeof(x)}
}

// regions are the memory of all lists of a program, with their spare room.
func regions(p api.Program) []region {
	l := []region{regionOf(p.Funcs), regionOf(p.Data)}
	for _, f := range p.Funcs {
		l = append(l, regionOf(f.Blocks))
		for _, b := range f.Blocks {
			l = append(l, regionOf(b.Code), regionOf(b.To))
			for _, x := range b.Code {
				l = append(l, regionOf(x.Args), regionOf(x.Pred))
			}
		}
	}
	return l
}

// R3: no two lists share memory, nor does one with the argument.
func TestNewMemory(t *testing.T) {
	for seed := range int64(200) {
		src, c, ok := randomChecked(seed)
		if !ok {
			continue
		}
		p := made(t, src, c)
		l := append(regions(p), regionOf(c.Data))
		l = slices.DeleteFunc(l, func(r region) bool { return r.from == r.to })
		sort.Slice(l, func(i, j int) bool { return l[i].from < l[j].from })
		for i := range l[1:] {
			if l[i].to > l[i+1].from {
				t.Fatalf("%s: two lists share memory", src)
			}
		}
	}
}

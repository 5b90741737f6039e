package live

import (
	"math/rand"
	"reflect"
	"slices"
	"testing"

	"crucible/api"
)

// roomy is a function all of whose lists have something behind their ends.
func roomy(f api.Func) api.Func {
	f.Blocks = withRoom(f.Blocks, api.Block{End: 9})
	for i := range f.Blocks {
		b := &f.Blocks[i]
		b.To, b.Code = withRoom(b.To, 7), withRoom(b.Code, api.Instr{Op: 99})
		for j := range b.Code {
			x := &b.Code[j]
			x.Args, x.Pred = withRoom(x.Args, 5), withRoom(x.Pred, 6)
		}
	}
	return f
}

func withRoom[T any](l []T, behind T) []T {
	return append(slices.Clone(l), behind, behind, behind)[:len(l)]
}

// wholes are a program's functions, each with all that lies behind its lists.
func wholes(p api.Program) []api.Func {
	var l []api.Func
	for _, f := range p.Funcs[:cap(p.Funcs)] {
		f.Blocks = f.Blocks[:cap(f.Blocks)]
		blocks := make([]api.Block, len(f.Blocks))
		for i, b := range f.Blocks {
			b.To, b.Code = slices.Clone(b.To[:cap(b.To)]), slices.Clone(b.Code[:cap(b.Code)])
			for j := range b.Code {
				x := &b.Code[j]
				x.Args, x.Pred = slices.Clone(x.Args[:cap(x.Args)]), slices.Clone(x.Pred[:cap(x.Pred)])
			}
			blocks[i] = b
		}
		f.Blocks = blocks
		l = append(l, f)
	}
	return l
}

// spoil writes into all that lists have, with the room behind them; false: two share memory.
func spoil(lists [][]int) bool {
	lists = lists[:cap(lists)]
	for i, l := range lists {
		for j := range l[:cap(l)] {
			l[:cap(l)][j] = -1 - i
		}
	}
	for i, l := range lists {
		if slices.ContainsFunc(l[:cap(l)], func(n int) bool { return n != -1-i }) {
			return false
		}
	}
	clear(lists)
	return true
}

func cloned(lists [][]int) [][]int {
	l := slices.Clone(lists)
	for i := range l {
		l[i] = slices.Clone(l[i])
	}
	return l
}

// R3, R4: what is handed in stays, with the room behind it; the same is told again; answers share no memory.
func TestMemory(t *testing.T) {
	r := rand.New(rand.NewSource(24))
	for i := range 1500 {
		p := randomProgram(r, small)
		for j, f := range p.Funcs {
			p.Funcs[j] = roomy(f)
		}
		p.Funcs = withRoom(p.Funcs, api.Func{Name: "room"})
		f := p.Funcs[r.Intn(len(p.Funcs))]
		if i%100 == 0 {
			f.Regs = 3 * width
		}
		was := wholes(p)
		in, out := liveOf(t, p, f)
		clashes := clashOf(t, p, f)
		wantIn, wantOut, want := cloned(in), cloned(out), cloned(clashes)
		in2, out2 := liveOf(t, p, f)
		clashes2 := clashOf(t, p, f)
		if !spoil(append(append(in2, out2...), clashes2...)) {
			t.Fatalf("two lists of answers share memory, of %+v", f)
		}
		if !sameLists(in, wantIn) || !sameLists(out, wantOut) || !sameLists(clashes, want) {
			t.Fatalf("an answer shares memory with another one, of %+v", f)
		}
		if !spoil(in) || !sameLists(out, wantOut) || !spoil(out) || !spoil(clashes) {
			t.Fatalf("two lists of an answer share memory, of %+v", f)
		}
		if !reflect.DeepEqual(wholes(p), was) {
			t.Fatalf("it was changed, or shares memory with an answer: %+v", f)
		}
		in, out = liveOf(t, p, f)
		if !sameLists(in, wantIn) || !sameLists(out, wantOut) || !sameLists(clashOf(t, p, f), want) {
			t.Fatalf("another answer the second time, of %+v", f)
		}
	}
}

// R3: nil and the empty list are the same.
func TestEmptyLists(t *testing.T) {
	empty := api.Block{Code: []api.Instr{{Op: api.OpConst, Args: []int{}, Pred: []int{}}}, End: api.EndReturn, To: []int{}}
	f := function(0, 2, empty)
	in, out := liveOf(t, programOf(f), f)
	if !sameLists(in, [][]int{nil}) || !sameLists(out, [][]int{{0}}) {
		t.Errorf("%v, %v", in, out)
	}
	if l := clashOf(t, programOf(f), f); !sameLists(l, [][]int{nil, nil}) {
		t.Errorf("%v", l)
	}
}

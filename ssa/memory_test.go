package ssa

import (
	"math/rand"
	"reflect"
	"slices"
	"testing"

	"crucible/api"
	"crucible/ir"
)

// roomy is a program all of whose lists have something behind their ends.
func roomy(p api.Program) api.Program {
	p.Data = withRoom(p.Data, api.Fill{At: 3, Bytes: "room"})
	p.Funcs = withRoom(p.Funcs, api.Func{Name: "room"})
	for i := range p.Funcs {
		f := &p.Funcs[i]
		f.Blocks = withRoom(f.Blocks, api.Block{End: 9})
		for j := range f.Blocks {
			b := &f.Blocks[j]
			b.To, b.Code = withRoom(b.To, 7), withRoom(b.Code, api.Instr{Op: 99})
			for k := range b.Code {
				x := &b.Code[k]
				x.Args, x.Pred = withRoom(x.Args, 5), withRoom(x.Pred, 6)
			}
		}
	}
	return p
}

func withRoom[T any](l []T, behind T) []T {
	return append(slices.Clone(l), behind, behind, behind)[:len(l)]
}

// numbers are all lists of numbers of a function, with the room behind them.
func numbers(f api.Func) [][]int {
	var l [][]int
	for _, b := range f.Blocks[:cap(f.Blocks)] {
		l = append(l, b.To[:cap(b.To)])
		for _, x := range b.Code[:cap(b.Code)] {
			l = append(l, x.Args[:cap(x.Args)], x.Pred[:cap(x.Pred)])
		}
	}
	return l
}

// whole is a program's parts, with the room behind them, in memory of their own.
func whole(p api.Program) []any {
	all := []any{slices.Clone(p.Data[:cap(p.Data)]), p.Global, p.Main}
	for _, f := range p.Funcs[:cap(p.Funcs)] {
		blocks := slices.Clone(f.Blocks[:cap(f.Blocks)])
		for i, b := range blocks {
			blocks[i].To = nil
			blocks[i].Code = slices.Clone(b.Code[:cap(b.Code)])
			for j := range blocks[i].Code {
				x := &blocks[i].Code[j]
				x.Args, x.Pred = nil, nil
			}
		}
		var lists [][]int
		for _, l := range numbers(f) {
			lists = append(lists, slices.Clone(l))
		}
		all = append(all, f.Name, f.Params, f.Regs, f.Slots, blocks, lists)
	}
	return all
}

// spoilAll writes into all that a program has, with the room behind it; false: two lists share memory.
func spoilAll(p api.Program) bool {
	var lists [][]int
	for i := range p.Data[:cap(p.Data)] {
		p.Data[:cap(p.Data)][i] = api.Fill{At: -1}
	}
	for _, f := range p.Funcs {
		lists = append(lists, numbers(f)...)
	}
	for i, l := range lists {
		for j := range l {
			l[j] = -100 - i
		}
	}
	for i, l := range lists {
		if slices.ContainsFunc(l, func(n int) bool { return n != -100-i }) {
			return false
		}
	}
	return spoilCode(p)
}

func spoilCode(p api.Program) bool {
	for i, f := range p.Funcs {
		for j, b := range f.Blocks[:cap(f.Blocks)] {
			for k := range b.Code[:cap(b.Code)] {
				b.Code[:cap(b.Code)][k] = api.Instr{Op: -1 - i, Imm: int32(j)}
			}
		}
	}
	for i, f := range p.Funcs {
		for j, b := range f.Blocks[:cap(f.Blocks)] {
			for _, x := range b.Code[:cap(b.Code)] {
				if x.Op != -1-i || x.Imm != int32(j) {
					return false
				}
			}
			f.Blocks[:cap(f.Blocks)][j] = api.Block{End: -1}
		}
	}
	for i := range p.Funcs[:cap(p.Funcs)] {
		p.Funcs[:cap(p.Funcs)][i] = api.Func{Name: "spoilt"}
	}
	return true
}

// R3, R4: what is handed in stays, with the room behind it; the same is told again; answers share no memory.
func TestMemory(t *testing.T) {
	r := rand.New(rand.NewSource(3))
	for range 600 {
		p := roomy(randomProgram(r, shape{8, 4, 3, 5}))
		was := whole(p)
		q := wholeOf(t, p)
		if !reflect.DeepEqual(whole(p), was) {
			t.Fatalf("it was changed: %+v", p)
		}
		want := whole(q)
		other := wholeOf(t, p)
		alone := formOf(t, p, p.Funcs[0])
		if !reflect.DeepEqual(whole(other), want) || !ir.Same(alone, q.Funcs[0]) {
			t.Fatalf("%+v, then %+v", q, other)
		}
		if !spoilAll(other) || !spoilAll(api.Program{Funcs: []api.Func{alone}}) {
			t.Fatalf("two lists of an answer share memory, of %+v", p)
		}
		if !reflect.DeepEqual(whole(p), was) || !reflect.DeepEqual(whole(q), want) {
			t.Fatal("an answer shares memory with what is handed in, or with another one")
		}
	}
}

// R3: the same of what is in form already, and of what goes by the hub.
func TestMemoryOfForms(t *testing.T) {
	for _, f := range []api.Func{dense(40, 40, 0), dense(255, 260, 0)} {
		p := roomy(programOf(f))
		was := whole(p)
		q, e := Whole(p)
		p2 := roomy(q)
		want := whole(p2)
		again, e2 := Whole(p2)
		if e != api.OK || e2 != api.OK {
			t.Fatalf("errors %d, %d", e, e2)
		}
		if !spoilAll(again) || !reflect.DeepEqual(whole(p2), want) || !spoilAll(q) || !reflect.DeepEqual(whole(p), was) {
			t.Fatal("an answer shares memory")
		}
	}
}

// R3: nil and the empty list are the same.
func TestEmptyLists(t *testing.T) {
	empty := api.Block{Code: []api.Instr{{Op: api.OpConst, Args: []int{}, Pred: []int{}}}, End: api.EndReturn, To: []int{}}
	none := api.Block{Code: []api.Instr{{Op: api.OpConst}}, End: api.EndReturn}
	a, b := function(0, 1, empty), function(0, 1, none)
	if !InForm(programOf(a), a) || !ir.Same(formOf(t, programOf(a), a), formOf(t, programOf(b), b)) {
		t.Error("empty lists are not as nil")
	}
}

package brick

import (
	"slices"

	"crucible/api"
)

// Roomy is a program all of whose lists have something behind their ends.
func Roomy(p api.Program) api.Program {
	p.Data = withRoom(p.Data, api.Fill{At: 3, Bytes: "room"})
	p.Funcs = withRoom(p.Funcs, api.Func{Name: "room"})
	for i := range p.Funcs {
		f := &p.Funcs[i]
		f.Blocks = withRoom(f.Blocks, api.Block{End: 9})
		for j := range f.Blocks {
			b := &f.Blocks[j]
			b.To, b.Code = withRoom(b.To, 7), withRoom(b.Code, api.Instr{Op: 99})
			for k := range b.Code {
				x := &b.Code[k]
				x.Args, x.Pred = withRoom(x.Args, 5), withRoom(x.Pred, 6)
			}
		}
	}
	return p
}

func withRoom[T any](l []T, behind T) []T {
	return append(slices.Clone(l), behind, behind, behind)[:len(l)]
}

// Whole is a program's parts, with the room behind them, in memory of their own: what can be compared later on.
func Whole(p api.Program) []any {
	all := []any{slices.Clone(p.Data[:cap(p.Data)]), p.Global, p.Main}
	for _, f := range p.Funcs[:cap(p.Funcs)] {
		blocks := slices.Clone(f.Blocks[:cap(f.Blocks)])
		for i, b := range blocks {
			blocks[i].To = nil
			blocks[i].Code = slices.Clone(b.Code[:cap(b.Code)])
			for j := range blocks[i].Code {
				x := &blocks[i].Code[j]
				x.Args, x.Pred = nil, nil
			}
		}
		var lists [][]int
		for _, l := range numbers(f) {
			lists = append(lists, slices.Clone(l))
		}
		all = append(all, f.Name, f.Params, f.Regs, f.Slots, blocks, lists)
	}
	return all
}

// numbers are all lists of numbers of a function, with the room behind them.
func numbers(f api.Func) [][]int {
	var l [][]int
	for _, b := range f.Blocks[:cap(f.Blocks)] {
		l = append(l, b.To[:cap(b.To)])
		for _, x := range b.Code[:cap(b.Code)] {
			l = append(l, x.Args[:cap(x.Args)], x.Pred[:cap(x.Pred)])
		}
	}
	return l
}

// Spoil writes into all lists that some functions have, with the room behind them; false: two lists share memory.
func Spoil(funcs ...api.Func) bool {
	var lists [][]int
	for _, f := range funcs {
		lists = append(lists, numbers(f)...)
	}
	return SpoilNumbers(lists...) && spoilCode(funcs)
}

// SpoilNumbers is Spoil of lists of numbers.
func SpoilNumbers(lists ...[]int) bool {
	for i, l := range lists {
		for j := range l[:cap(l)] {
			l[:cap(l)][j] = -100 - i
		}
	}
	for i, l := range lists {
		if slices.ContainsFunc(l[:cap(l)], func(n int) bool { return n != -100-i }) {
			return false
		}
	}
	return true
}

func spoilCode(funcs []api.Func) bool {
	for i, f := range funcs {
		for j, b := range f.Blocks[:cap(f.Blocks)] {
			for k := range b.Code[:cap(b.Code)] {
				b.Code[:cap(b.Code)][k] = api.Instr{Op: -1 - i, Imm: int32(j)}
			}
		}
	}
	for i, f := range funcs {
		for j, b := range f.Blocks[:cap(f.Blocks)] {
			for _, x := range b.Code[:cap(b.Code)] {
				if x.Op != -1-i || x.Imm != int32(j) {
					return false
				}
			}
			f.Blocks[:cap(f.Blocks)][j] = api.Block{End: -1}
		}
	}
	return true
}

package sccp

import "crucible/api"

// use is a place at which a register is used: an argument of a block's instruction, or, behind the last one, its end.
type use struct{ block, at, arg int32 }

// uses is the uses of all registers: those of each one begin where the former one's end.
type uses struct {
	begins []int
	list   []use
}

func usesOf(f api.Func) uses {
	u := uses{begins: make([]int, f.Regs+1)}
	eachUse(f, func(register int, _ use) { u.begins[register+1]++ })
	for r := range f.Regs {
		u.begins[r+1] += u.begins[r]
	}
	u.list = make([]use, u.begins[f.Regs])
	filled := make([]int, f.Regs)
	eachUse(f, func(register int, x use) {
		u.list[u.begins[register]+filled[register]] = x
		filled[register]++
	})
	return u
}

func (u uses) of(register int) []use { return u.list[u.begins[register]:u.begins[register+1]] }

// eachUse leaves away what an EndReturn uses: nothing gets known by it.
func eachUse(f api.Func, tell func(register int, u use)) {
	for i, b := range f.Blocks {
		for j, x := range b.Code {
			for k, a := range x.Args {
				tell(a, use{int32(i), int32(j), int32(k)})
			}
		}
		if b.End == api.EndBranch {
			tell(b.Arg, use{block: int32(i), at: int32(len(b.Code))})
		}
	}
}

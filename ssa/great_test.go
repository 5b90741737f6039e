package ssa

import (
	"math/rand"
	"testing"
	"time"

	"crucible/api"
	"crucible/ir"
	"crucible/irrun"
)

// dense is a function of loops within one another, and registers that are given values in the innermost and are live
// everywhere: each of them meets another value of its own in each loop's header. Its last block has some more puts.
func dense(loops, registers, puts int) api.Func {
	// Block 0; the headers, from the outermost on; their latches, from the innermost on; the end.
	n := 2*loops + 2
	f := function(0, registers+1, make([]api.Block, n)...)
	for i := range f.Blocks {
		f.Blocks[i] = jump(i + 1)
	}
	inner := &f.Blocks[loops]
	for i := range registers {
		inner.Code = append(inner.Code, reckoned(i, api.AluAdd, i, (i+1)%registers))
	}
	for i := range loops {
		latch := &f.Blocks[loops+1+i]
		*latch = branch(registers, loops-i, loops+2+i, got(registers))
	}
	f.Blocks[n-1] = give(0)
	for i := range registers {
		f.Blocks[n-1].Code = append(f.Blocks[n-1].Code, put(i))
	}
	for range puts {
		f.Blocks[n-1].Code = append(f.Blocks[n-1].Code, put(0))
	}
	return f
}

// sized tells a function's instructions, registers and blocks.
func sized(f api.Func) [3]int { return [3]int{codeSize(f), f.Regs, len(f.Blocks)} }

// inTime asks that something ends, soon.
func inTime(t *testing.T, what string, call func()) {
	t.Helper()
	begin := time.Now()
	call()
	if d := time.Since(begin); d > time.Minute {
		t.Errorf("%s: %v", what, d)
	}
}

// Ss1: with one instruction more than may be there is no form.
func TestMaxCode(t *testing.T) {
	puts := func(n int) api.Func {
		f := function(0, 1, give(-1))
		for range n {
			f.Blocks[0].Code = append(f.Blocks[0].Code, put(0))
		}
		return f
	}
	// Register 0 is used, and given no value: what gives it 0 is one instruction more.
	f := puts(api.MaxCode - 1)
	if made := greatForm(t, programOf(f), f); sized(made) != [3]int{api.MaxCode, 1, 1} {
		t.Errorf("%v", sized(made))
	}
	expectFull(t, puts(api.MaxCode))
	f = puts(api.MaxCode)
	f.Params = 1
	if made := greatForm(t, programOf(f), f); sized(made) != [3]int{api.MaxCode, 1, 1} {
		t.Errorf("%v", sized(made))
	}
	// OpPhis count, too: one of each register in each header, and what gives the 0 to begin with.
	const loops, registers = 300, 200
	f = dense(loops, registers, 0)
	more := api.MaxCode - codeSize(f) - loops*registers - 1
	f = dense(loops, registers, more)
	if made := greatForm(t, programOf(f), f); codeSize(made) != api.MaxCode {
		t.Errorf("%v", sized(made))
	}
	expectFull(t, dense(loops, registers, more+1))
	expectFull(t, dense(loops, registers, more+2))
}

func expectFull(t *testing.T, f api.Func) {
	t.Helper()
	p := programOf(f)
	if ir.CheckFunc(p, f) != api.OK {
		t.Fatal("it may not be")
	}
	if made, e := Make(p, f); e != api.ErrFull || made.Name != "" || made.Regs != 0 || len(made.Blocks) != 0 {
		t.Errorf("Make of %v: error %d", sized(f), e)
	}
	p = programOf(function(0, 0, give(-1)), f)
	p.Global, p.Data, p.Main = 8, []api.Fill{{At: 1, Bytes: "x"}}, 1
	if q, e := Whole(p); e != api.ErrFull || len(q.Funcs)+len(q.Data)+q.Global+q.Main != 0 {
		t.Errorf("Whole of %v: error %d", sized(f), e)
	}
}

// Ss1: with one register more than may be there is no form.
func TestMaxRegs(t *testing.T) {
	gives := func(params, n int) api.Func {
		f := function(params, 13, give(12))
		for range n {
			f.Blocks[0].Code = append(f.Blocks[0].Code, got(12))
		}
		return f
	}
	for params := range 4 {
		f := gives(params, api.MaxRegs-params)
		if made := greatForm(t, programOf(f), f); made.Regs != api.MaxRegs {
			t.Errorf("%v", sized(made))
		}
	}
	for _, f := range []api.Func{gives(1, api.MaxRegs), gives(12, api.MaxRegs-11)} {
		if made, e := Make(programOf(f), f); e != api.ErrFull || len(made.Blocks) != 0 {
			t.Errorf("error %d", e)
		}
	}
}

// Ss1: where Make is to tell no ErrFull it does not, also where plain OpPhis would be far more than may be.
func TestPromised(t *testing.T) {
	const code, registers, blocks = api.MaxCode / 8, api.MaxRegs / 8, 512
	f := dense(blocks/2-1, code/2-blocks, 0)
	for codeSize(f) < code {
		f.Blocks[0].Code = append(f.Blocks[0].Code, constant(0, 5))
	}
	f.Regs = registers
	if sized(f) != [3]int{code, registers, blocks} {
		t.Fatalf("%v", sized(f))
	}
	inTime(t, "the greatest", func() {
		made := greatForm(t, programOf(f), f)
		if countOf(made, api.OpPhi) > registers+1 {
			t.Errorf("%d OpPhis", countOf(made, api.OpPhi))
		}
	})
	for _, size := range [][2]int{{250, 250}, {255, 300}, {200, 2000}} {
		f := dense(size[0], size[1], 0)
		p := programOf(f)
		q := programOf(greatForm(t, p, f))
		for _, input := range []string{"", "\x00", "\x01\x02\x00\x00\x00\x07\x01\x00\x00\x01\x01\x00\x05"} {
			// At the input's end it goes around and around.
			if input != "" {
				input += string(make([]byte, 2000))
			}
			if e := expectSame(t, p, q, input, 100000, 5); (e.Kind == api.EndExit) != (input != "") {
				t.Errorf("%v: %+v", size, e)
			}
		}
	}
}

// greatForm is formOf without the model, which takes too long for great functions.
func greatForm(t *testing.T, p api.Program, f api.Func) api.Func {
	t.Helper()
	made, e := Make(p, f)
	if e != api.OK || !InForm(p, made) || made.Name != f.Name || made.Params != f.Params || made.Slots != f.Slots {
		t.Fatalf("Make of %v: error %d, %v", sized(f), e, sized(made))
	}
	return made
}

// tangle is a program of a function of blocks all of which are reached, with ways by chance, and instructions as many as
// are wanted; some are OpPhis.
func tangle(r *rand.Rand, blocks, registers, code int) api.Program {
	p := programOf(function(3, registers, jump(1)), function(0, 2, give(0, got(0), got(1), called(0, 0, 0, 1, 0))))
	p.Main = 1
	f := &p.Funcs[0]
	for i := 1; i < blocks-1; i++ {
		f.Blocks = append(f.Blocks, branch(r.Intn(registers), i+1, 1+r.Intn(blocks-1)))
	}
	f.Blocks = append(f.Blocks, give(r.Intn(registers)))
	each := code / blocks
	for i, preds := range ir.Preds(*f) {
		b := &f.Blocks[i]
		for range r.Intn(1 + each/2) {
			args := make([]int, len(preds))
			for j := range args {
				args[j] = r.Intn(registers)
			}
			b.Code = append(b.Code, phi(r.Intn(registers), preds, args))
		}
		for len(b.Code) < each {
			b.Code = append(b.Code, calmInstr(r, p, *f))
		}
	}
	for last := &f.Blocks[blocks-1]; codeSize(*f) < code; {
		last.Code = append(last.Code, calmInstr(r, p, *f))
	}
	return p
}

// calmInstr nearly never ends a run.
func calmInstr(r *rand.Rand, p api.Program, f api.Func) api.Instr {
	for {
		x := randomInstr(r, p, f)
		if ir.Pure(x) || x.Op == api.OpGet || x.Op == api.OpPut || r.Intn(500) == 0 {
			return x
		}
	}
}

// Ss1: no ErrFull of functions by chance as great as is promised.
func TestPromisedByChance(t *testing.T) {
	r := rand.New(rand.NewSource(99))
	plain, hub, ends := 0, 0, make([]int, 4)
	for _, registers := range []int{4, 40, 200, 400, 1000, 4000, api.MaxRegs / 8} {
		for _, code := range []int{600, 2000, api.MaxCode / 8} {
			p := tangle(r, 512, registers, code)
			inTime(t, "by chance", func() {
				q := p
				q.Funcs = []api.Func{greatForm(t, p, p.Funcs[0]), greatForm(t, p, p.Funcs[1])}
				for range 8 {
					e := expectSame(t, p, q, string([]byte{byte(r.Intn(3)), byte(r.Intn(3)), 'a', 'b'}), 1000, 4)
					ends[e.Kind]++
				}
			})
			if _, fits := formed(p.Funcs[0]); fits {
				plain++
			} else {
				hub++
			}
		}
	}
	if plain < 5 || hub < 5 || ends[api.EndFuel] < 10 || ends[api.EndTrap] < 10 {
		t.Errorf("%d are let as they are, %d by the hub, ends %v: the test says little", plain, hub, ends)
	}
}

// R1: all that may be, by chance.
func TestGreatByChance(t *testing.T) {
	r := rand.New(rand.NewSource(100))
	for _, registers := range []int{4, 12, 100, 10000, api.MaxRegs} {
		for _, code := range []int{api.MaxBlocks, api.MaxCode / 2, api.MaxCode - 10} {
			p := tangle(r, api.MaxBlocks, registers, code)
			if ir.Check(p) != api.OK {
				t.Fatal("it may not be")
			}
			inTime(t, "by chance", func() {
				made, e := Make(p, p.Funcs[0])
				if e == api.OK && !InForm(p, made) || e != api.OK && e != api.ErrFull {
					t.Errorf("%d registers, %d instructions: error %d", registers, code, e)
				}
			})
		}
	}
}

// R1: as many blocks, registers and instructions as may be, live as far as they can.
func TestGreat(t *testing.T) {
	const loops = api.MaxBlocks/2 - 1
	for _, registers := range []int{1, 30, 31, 1000, 31000} {
		f := dense(loops, registers, 0)
		inTime(t, "loops", func() {
			if codeSize(f)+loops*registers < api.MaxCode {
				greatForm(t, programOf(f), f)
			} else {
				expectFull(t, f)
			}
		})
	}
}

// R1: registers that are live in very many blocks, and meet in one.
func TestFar(t *testing.T) {
	const registers = 15000
	f := function(0, api.MaxRegs, branch(registers, 1, 2, got(registers)))
	for i := range 2 {
		b := jump(3)
		for r := range registers {
			b.Code = append(b.Code, constant(r, int32(i+r)))
		}
		f.Blocks = append(f.Blocks, b)
	}
	// A row of loops, one behind the other.
	for i := 3; i < api.MaxBlocks-1; i++ {
		f.Blocks = append(f.Blocks, branch(registers, max(3, i-i%2), i+1, got(registers)))
	}
	last := give(-1)
	for r := range registers {
		last.Code = append(last.Code, put(r))
	}
	f.Blocks = append(f.Blocks, last)
	inTime(t, "far", func() {
		p := programOf(f)
		made := greatForm(t, p, f)
		if n := countOf(made, api.OpPhi); n != registers {
			t.Errorf("%d OpPhis", n)
		}
		for _, input := range []string{"\x00", "\x01", "\x00\x00\x01"} {
			expectSame(t, p, programOf(made), input+string(make([]byte, api.MaxBlocks)), 100000, 1)
		}
	})
}

// Ss2: a function with very many ways to one block.
func TestManyPredecessors(t *testing.T) {
	const ways = 2000
	f := function(0, 5, jump(1, got(0), constant(1, 1)))
	for i := range ways {
		f.Blocks = append(f.Blocks, branch(0, i+2, ways+1, reckoned(0, api.AluSub, 0, 1), constant(2, int32(i))))
	}
	f.Blocks = append(f.Blocks, give(2, put(2), put(0)))
	p := programOf(f)
	q := wholeOf(t, p)
	if n := countOf(q.Funcs[0], api.OpPhi); n != 2 {
		t.Errorf("%d OpPhis", n)
	}
	for _, input := range []string{"\x05", "\xc8", "\x00", ""} {
		expectSame(t, p, q, input, 10000, 1)
	}
	if e := irrun.Run(q, "\x05", 10000, 1); e.Out != "\x04\x00" {
		t.Errorf("%+v", e)
	}
}

package ir

import (
	"math"
	"reflect"
	"slices"
	"testing"

	"crucible/api"
)

func TestPure(t *testing.T) {
	pure := []int{api.OpConst, api.OpCopy, api.OpGlobal, api.OpSlot, api.OpPhi}
	for op := -2; op < 40; op++ {
		if op == api.OpAlu {
			continue
		}
		for _, alu := range []int{0, api.AluAdd, api.AluDiv} {
			if got, want := Pure(api.Instr{Op: op, Alu: alu}), slices.Contains(pure, op); got != want {
				t.Errorf("Pure of Op %d, Alu %d = %v", op, alu, got)
			}
		}
	}
	trapping := []int{api.AluDiv, api.AluDivU, api.AluRem, api.AluRemU}
	for alu := -2; alu < 40; alu++ {
		want := alu >= 1 && alu <= 19 && !slices.Contains(trapping, alu)
		if got := Pure(api.Instr{Op: api.OpAlu, Alu: alu}); got != want {
			t.Errorf("Pure of OpAlu %d = %v", alu, got)
		}
	}
	for _, n := range []int{math.MinInt, math.MaxInt} {
		if Pure(api.Instr{Op: n}) || Pure(api.Instr{Op: api.OpAlu, Alu: n}) {
			t.Errorf("Pure of %d", n)
		}
	}
}

func TestPureHangsOnOpAndAluAlone(t *testing.T) {
	for _, x := range everything().Blocks[1].Code {
		y := api.Instr{Op: x.Op, Alu: x.Alu, Dst: -7, Imm: 9, Wide: 3, Args: []int{1, 2, 3}, Pred: []int{5}}
		if Pure(x) != Pure(y) {
			t.Errorf("Pure of %+v and of %+v differ", x, y)
		}
	}
}

// changes turn one thing of everything() each.
func changes() map[string]func(f *api.Func) {
	return map[string]func(f *api.Func){
		"Name":          func(f *api.Func) { f.Name = "other" },
		"Params":        func(f *api.Func) { f.Params++ },
		"Regs":          func(f *api.Func) { f.Regs++ },
		"Slots":         func(f *api.Func) { f.Slots++ },
		"a block more":  func(f *api.Func) { f.Blocks = append(f.Blocks, api.Block{}) },
		"a block less":  func(f *api.Func) { f.Blocks = f.Blocks[:len(f.Blocks)-1] },
		"no blocks":     func(f *api.Func) { f.Blocks = nil },
		"End":           func(f *api.Func) { f.Blocks[6].End++ },
		"a block's Arg": func(f *api.Func) { f.Blocks[6].Arg++ },
		"To":            func(f *api.Func) { f.Blocks[1].To[1]++ },
		"one To more":   func(f *api.Func) { f.Blocks[1].To = append(f.Blocks[1].To, 0) },
		"one To less":   func(f *api.Func) { f.Blocks[1].To = f.Blocks[1].To[:1] },
		"To falling":    func(f *api.Func) { slices.Reverse(f.Blocks[1].To) },
		"code more":     func(f *api.Func) { f.Blocks[6].Code = append(f.Blocks[6].Code, api.Instr{}) },
		"code less":     func(f *api.Func) { f.Blocks[4].Code = f.Blocks[4].Code[:1] },
		"no code":       func(f *api.Func) { f.Blocks[4].Code = nil },
		"code falling":  func(f *api.Func) { slices.Reverse(f.Blocks[4].Code) },
		"Op":            func(f *api.Func) { f.Blocks[1].Code[2].Op++ },
		"Dst":           func(f *api.Func) { f.Blocks[1].Code[2].Dst++ },
		"Imm":           func(f *api.Func) { f.Blocks[1].Code[2].Imm++ },
		"Alu":           func(f *api.Func) { f.Blocks[1].Code[2].Alu++ },
		"Wide":          func(f *api.Func) { f.Blocks[1].Code[2].Wide++ },
		"Args":          func(f *api.Func) { f.Blocks[1].Code[2].Args[1]++ },
		"one Arg more":  func(f *api.Func) { x := &f.Blocks[1].Code[2]; x.Args = append(x.Args, 0) },
		"one Arg less":  func(f *api.Func) { x := &f.Blocks[1].Code[2]; x.Args = x.Args[:1] },
		"Args falling":  func(f *api.Func) { slices.Reverse(f.Blocks[1].Code[2].Args) },
		"Pred":          func(f *api.Func) { f.Blocks[1].Code[1].Pred[2]++ },
		"one Pred less": func(f *api.Func) { x := &f.Blocks[1].Code[1]; x.Pred = x.Pred[:2] },
		"a Pred of one": func(f *api.Func) { f.Blocks[1].Code[2].Pred = []int{0} },
	}
}

func TestSame(t *testing.T) {
	if !Same(everything(), everything()) || !Same(api.Func{}, api.Func{}) {
		t.Error("what is alike is not Same")
	}
	for name, change := range changes() {
		f := everything()
		change(&f)
		if Same(f, everything()) || Same(everything(), f) {
			t.Errorf("%s: Same", name)
		}
		if !Same(f, f) {
			t.Errorf("%s: not like itself", name)
		}
	}
}

func TestNilAndEmptyAreAlike(t *testing.T) {
	a := api.Func{Blocks: []api.Block{{Code: []api.Instr{{}}}, {}}}
	b := api.Func{Blocks: []api.Block{
		{Code: []api.Instr{{Args: []int{}, Pred: []int{}}}, To: []int{}}, {Code: []api.Instr{}, To: []int{}},
	}}
	if !Same(a, b) || !Same(b, a) {
		t.Error("nil and empty lists are not alike")
	}
	if !Same(api.Func{}, api.Func{Blocks: []api.Block{}}) {
		t.Error("no blocks are not alike")
	}
}

func TestCopyIsAlike(t *testing.T) {
	for name, f := range map[string]api.Func{
		"nothing": {}, "everything": everything(), "counting": counting(),
		"strange": {Name: "x", Params: -1, Regs: -2, Slots: 3, Blocks: []api.Block{
			{End: 77, Arg: -5, To: []int{9, 9, -9}, Code: []api.Instr{{Op: -1, Alu: 50, Wide: 3, Pred: []int{}}}}, {},
		}},
	} {
		if c := Copy(f); !Same(c, f) || !reflect.DeepEqual(c, f) {
			t.Errorf("%s: Copy = %+v", name, c)
		}
	}
}

func TestCopyHasItsOwnMemory(t *testing.T) {
	for name, change := range changes() {
		f := everything()
		c := Copy(f)
		change(&c)
		if !Same(f, everything()) {
			t.Errorf("%s of the copy: the function is changed", name)
		}
		f = everything()
		c = Copy(f)
		change(&f)
		if !Same(c, everything()) {
			t.Errorf("%s of the function: the copy is changed", name)
		}
	}
}

// What lies behind a list's end is neither handed on nor changed, and lists that are one become two.
func TestCopyOfListsWithRoomBehind(t *testing.T) {
	room := []int{1, 2, 3, 4}
	f := function(9, give(-1, api.Instr{Op: 1, Args: room[:2], Pred: room[:2]}), api.Block{To: room[:1]})
	c := Copy(f)
	x := c.Blocks[0].Code[0]
	for _, l := range [][]int{x.Args, x.Pred, c.Blocks[1].To} {
		whole := l[:cap(l)]
		for i := range whole {
			whole[i] = 99
		}
		_ = append(l, 98)
	}
	if !slices.Equal(room, []int{1, 2, 3, 4}) {
		t.Errorf("the room is changed: %v", room)
	}
	c = Copy(f)
	c.Blocks[0].Code[0].Args[0] = 50
	if c.Blocks[0].Code[0].Pred[0] != 1 || c.Blocks[1].To[0] != 1 {
		t.Error("lists of a copy share memory")
	}
}

func TestNothingIsChanged(t *testing.T) {
	f := everything()
	p := programOf(f)
	Check(p)
	CheckFunc(p, f)
	Preds(f)
	Reached(f)
	Copy(f)
	Same(f, f)
	if !reflect.DeepEqual(f, everything()) || !reflect.DeepEqual(p, programOf(everything())) {
		t.Error("what is handed in was changed")
	}
}

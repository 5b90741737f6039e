package order

import (
	"reflect"
	"slices"
	"testing"

	"crucible/api"
)

// roomy is a function whose lists have something behind their ends.
func roomy() api.Func {
	f := nested(6)
	for i := range f.Blocks {
		l := append(slices.Clone(f.Blocks[i].To), 1, 2, 3)
		f.Blocks[i].To = l[:len(l)-3]
	}
	f.Blocks = append(f.Blocks, api.Block{End: 9, To: []int{4}})[:len(f.Blocks)]
	return f
}

// whole is a copy of all blocks and To, with the room behind them.
func whole(f api.Func) []api.Block {
	l := slices.Clone(f.Blocks[:cap(f.Blocks)])
	for i := range l {
		l[i].To = slices.Clone(l[i].To[:cap(l[i].To)])
	}
	return l
}

// R3, R4: what is handed in stays, with the room behind it, and the same is told again.
func TestArgumentsStay(t *testing.T) {
	f := roomy()
	was := whole(f)
	doms, frontiers, loops, post := Doms(f), Frontiers(f), Loops(f), Postorder(f)
	Dominates(f, 1, 2)
	if !reflect.DeepEqual(whole(f), was) {
		t.Errorf("it was changed: %v, and was %v", whole(f), was)
	}
	if !slices.Equal(doms, Doms(f)) || !sameLists(frontiers, Frontiers(f)) || !sameLoops(loops, Loops(f)) ||
		!slices.Equal(post, Postorder(f)) {
		t.Error("it tells another thing the second time")
	}
}

// R3: no two lists of an answer share memory, nor a list with what is handed in, their spare room too.
func TestAnswersAreNew(t *testing.T) {
	f := roomy()
	was := whole(f)
	lists := append(Frontiers(f), Frontiers(f)...)
	for _, x := range append(Loops(f), Loops(f)...) {
		lists = append(lists, x.Blocks)
	}
	lists = append(lists, Doms(f), Doms(f), Postorder(f), Postorder(f))
	for i, l := range lists {
		lists[i] = l[:cap(l)]
		for j := range lists[i] {
			lists[i][j] = -100 - i
		}
	}
	for i, l := range lists {
		for _, b := range l {
			if b != -100-i {
				t.Fatalf("the list %d shares memory with another one: %v", i, l)
			}
		}
	}
	if !reflect.DeepEqual(whole(f), was) {
		t.Errorf("an answer shares memory with what is handed in: %v", whole(f))
	}
}

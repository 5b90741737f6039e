package scope

import (
	"math"
	"strings"
	"testing"

	"crucible/api"
)

// oddNames are names of any bytes, no two of them the same.
var oddNames = []string{
	"", " ", "  ", "\t", "\n", "\x00", "\x00\x00", "a", "A", "aa", "a ", " a", "a\x00", "b", "ab", "ba", "int", "main", "0", "-1",
	"\xff", "\xfe", "\xff\xfe", "\xc3", "\xc3\xa4", "a\xcc\x88", "\xc3\xb6", "struct s", "x.y", "\"", "\\", "x", "X",
}

// ends are numbers at the edges, and those at the ends of what an int has.
var ends = []int{0, -1, 1, 2, -2, math.MaxInt8, math.MinInt8, math.MaxInt32, math.MinInt32, math.MaxInt32 + 1, math.MinInt32 - 1, math.MaxUint32, math.MaxInt, math.MaxInt - 1, math.MinInt, math.MinInt + 1}

func made(t *testing.T) *Scope {
	t.Helper()
	s := New()
	if s == nil {
		t.Fatal("New: nil")
	}
	return s
}

func wantDeclare(t *testing.T, s *Scope, name string, id int, want api.Errno) {
	t.Helper()
	if e := s.Declare(name, id); e != want {
		t.Errorf("Declare(%.20q, %d) in %d blocks: %d, not %d", name, id, s.Depth(), e, want)
	}
}

func wantLeave(t *testing.T, s *Scope, want api.Errno) {
	t.Helper()
	if e := s.Leave(); e != want {
		t.Errorf("Leave, and %d blocks: %d, not %d", s.Depth(), e, want)
	}
}

func wantDepth(t *testing.T, s *Scope, want int) {
	t.Helper()
	if got := s.Depth(); got != want {
		t.Errorf("Depth: %d, not %d", got, want)
	}
}

// wantFind asks twice: asking changes nothing.
func wantFind(t *testing.T, s *Scope, name string, want int) {
	t.Helper()
	for range 2 {
		if id, ok := s.Find(name); id != want || !ok {
			t.Errorf("Find(%.20q) in %d blocks: %d, %v, not %d", name, s.Depth(), id, ok, want)
		}
	}
}

func wantNone(t *testing.T, s *Scope, names ...string) {
	t.Helper()
	for _, name := range names {
		if id, ok := s.Find(name); id != 0 || ok {
			t.Errorf("Find(%.20q) in %d blocks: %d, %v, not 0, false", name, s.Depth(), id, ok)
		}
	}
}

// The chapter's example.
func TestExample(t *testing.T) {
	s := made(t)
	wantDeclare(t, s, "x", 1, api.OK)
	s.Enter()
	wantDeclare(t, s, "x", 2, api.OK)
	wantFind(t, s, "x", 2)
	wantLeave(t, s, api.OK)
	wantFind(t, s, "x", 1)
}

// Sc1: one block, and no names in it.
func TestNew(t *testing.T) {
	s := made(t)
	wantDepth(t, s, 1)
	wantNone(t, s, oddNames...)
	wantLeave(t, s, api.ErrNone)
	wantDepth(t, s, 1)
	wantDeclare(t, s, "a", 5, api.OK)
	wantFind(t, s, "a", 5)
}

// Sc1: how many blocks there are behind each call, also behind one that is refused.
func TestDepth(t *testing.T) {
	s := made(t)
	for n := 1; n < 300; n++ {
		wantDepth(t, s, n)
		wantDeclare(t, s, "x", n, api.OK)
		wantDeclare(t, s, "x", n, api.ErrArg)
		wantFind(t, s, "x", n)
		wantNone(t, s, "y")
		wantDepth(t, s, n)
		s.Enter()
	}
	for n := 300; n > 1; n-- {
		wantDepth(t, s, n)
		wantLeave(t, s, api.OK)
	}
	for range 3 {
		wantDepth(t, s, 1)
		wantLeave(t, s, api.ErrNone)
	}
	s.Enter()
	wantDepth(t, s, 2)
	wantLeave(t, s, api.OK)
	wantDepth(t, s, 1)
}

// Sc1: the outermost block can't be left, and has its names behind the try, and takes others.
func TestLeaveOutermost(t *testing.T) {
	s := made(t)
	wantDeclare(t, s, "a", 7, api.OK)
	wantDeclare(t, s, "b", -7, api.OK)
	for i := range 3 {
		wantLeave(t, s, api.ErrNone)
		wantDepth(t, s, 1)
		wantFind(t, s, "a", 7)
		wantFind(t, s, "b", -7)
		wantDeclare(t, s, "a", 8, api.ErrArg)
		name := "c" + strings.Repeat("c", i)
		wantNone(t, s, name)
		wantDeclare(t, s, name, i, api.OK)
		wantFind(t, s, name, i)
	}
	s.Enter()
	wantFind(t, s, "a", 7)
	wantLeave(t, s, api.OK)
	wantLeave(t, s, api.ErrNone)
	wantFind(t, s, "a", 7)
}

// Sc1: a block that is entered anew has no names of the one that ended, at whatever depth.
func TestEnteredAnew(t *testing.T) {
	s := made(t)
	wantDeclare(t, s, "out", 1, api.OK)
	for depth := 1; depth <= 5; depth++ {
		for round := range 3 {
			s.Enter()
			wantNone(t, s, "a", "b")
			wantDeclare(t, s, "a", 10+round, api.OK)
			wantDeclare(t, s, "out", 20+round, api.OK)
			wantFind(t, s, "a", 10+round)
			wantFind(t, s, "out", 20+round)
			wantLeave(t, s, api.OK)
			wantNone(t, s, "a")
			wantFind(t, s, "out", 1)
		}
		s.Enter()
	}
}

// Sc1: the block that ended is gone, those around it are not, and the one that is innermost then takes names.
func TestLeaveEndsInnermostAlone(t *testing.T) {
	s := made(t)
	names := []string{"a", "b", "c", "d", "e"}
	for i, name := range names {
		s.Enter()
		wantDeclare(t, s, name, i, api.OK)
	}
	for left := len(names); left > 0; left-- {
		for i, name := range names[:left] {
			wantFind(t, s, name, i)
		}
		wantNone(t, s, names[left:]...)
		wantDeclare(t, s, names[left-1], 9, api.ErrArg)
		wantDeclare(t, s, "late", left, api.OK)
		wantFind(t, s, "late", left)
		wantLeave(t, s, api.OK)
		wantNone(t, s, "late")
	}
	wantDepth(t, s, 1)
	wantNone(t, s, names...)
}

// Sc2: a name in the innermost block, in the middle one, in the outermost, in none.
func TestFindByBlock(t *testing.T) {
	s := made(t)
	wantDeclare(t, s, "out", 1, api.OK)
	s.Enter()
	wantDeclare(t, s, "mid", 2, api.OK)
	wantFind(t, s, "out", 1)
	wantNone(t, s, "in")
	s.Enter()
	wantDeclare(t, s, "in", 3, api.OK)
	wantFind(t, s, "out", 1)
	wantFind(t, s, "mid", 2)
	wantFind(t, s, "in", 3)
	wantNone(t, s, "no", "", "o", "outt", "Out", "IN")
	wantLeave(t, s, api.OK)
	wantNone(t, s, "in")
	wantFind(t, s, "mid", 2)
	wantLeave(t, s, api.OK)
	wantNone(t, s, "in", "mid")
	wantFind(t, s, "out", 1)
}

// Sc2: the blocks between, without names or with others, do not matter.
func TestFindOverEmptyBlocks(t *testing.T) {
	s := made(t)
	s.Enter()
	s.Enter()
	wantNone(t, s, "x")
	wantDeclare(t, s, "x", 4, api.OK)
	for range 10 {
		s.Enter()
		wantFind(t, s, "x", 4)
		s.Enter()
		wantDeclare(t, s, "y", 5, api.OK)
		wantFind(t, s, "x", 4)
	}
	for range 10 {
		wantFind(t, s, "y", 5)
		wantLeave(t, s, api.OK)
		wantFind(t, s, "x", 4)
		wantLeave(t, s, api.OK)
		wantFind(t, s, "x", 4)
	}
	wantNone(t, s, "y")
	wantLeave(t, s, api.OK)
	wantNone(t, s, "x")
}

// Sc2: a name twice in one block is refused, whatever the number, and the first stays.
func TestDeclaredTwice(t *testing.T) {
	for _, first := range ends {
		s := made(t)
		for depth := 1; depth <= 3; depth++ {
			wantDeclare(t, s, "x", first, api.OK)
			for _, second := range ends {
				wantDeclare(t, s, "x", second, api.ErrArg)
				wantFind(t, s, "x", first)
				wantDepth(t, s, depth)
			}
			wantDeclare(t, s, "y", first, api.OK)
			wantFind(t, s, "y", first)
			s.Enter()
		}
	}
}

// Sc2: any name, each of them apart from the others.
func TestAnyName(t *testing.T) {
	s := made(t)
	for depth := range 2 {
		for i, name := range oddNames {
			wantDeclare(t, s, name, 100*depth+i, api.OK)
			wantDeclare(t, s, name, -1, api.ErrArg)
			for j, other := range oddNames {
				switch {
				case j <= i:
					wantFind(t, s, other, 100*depth+j)
				case depth == 0:
					wantNone(t, s, other)
				default:
					wantFind(t, s, other, j)
				}
			}
		}
		s.Enter()
	}
	wantLeave(t, s, api.OK)
	wantLeave(t, s, api.OK)
	for i, name := range oddNames {
		wantFind(t, s, name, i)
	}
}

// Sc2: very long names, which differ in one byte, or in how long they are.
func TestLongNames(t *testing.T) {
	long := strings.Repeat("n", 1<<20)
	names := []string{long, long[1:], long + "n", "m" + long[1:], long[1:] + "m", long[:1<<19] + "m" + long[1<<19+1:]}
	s := made(t)
	for i, name := range names {
		wantNone(t, s, name)
		wantDeclare(t, s, name, i, api.OK)
	}
	s.Enter()
	for i, name := range names {
		wantFind(t, s, name, i)
		wantDeclare(t, s, strings.Clone(name), -i, api.OK)
		wantDeclare(t, s, strings.Clone(name), i, api.ErrArg)
		wantFind(t, s, strings.Clone(name), -i)
	}
	wantNone(t, s, "n", "", long[2:])
}

// Sc2: any number; one number may be that of several names.
func TestAnyNumber(t *testing.T) {
	s := made(t)
	for i, id := range ends {
		wantDeclare(t, s, oddNames[i], id, api.OK)
		wantFind(t, s, oddNames[i], id)
	}
	for _, id := range ends {
		s.Enter()
		wantDeclare(t, s, "same", id, api.OK)
		wantDeclare(t, s, "again", id, api.OK)
		wantFind(t, s, "same", id)
		wantFind(t, s, "again", id)
	}
	for i, id := range ends {
		wantFind(t, s, oddNames[i], id)
	}
}

// Sc3: a name hides the same one further out until its block ends, block by block.
func TestInnerHidesOuter(t *testing.T) {
	s := made(t)
	wantDeclare(t, s, "x", 1000, api.OK)
	for n := 999; n >= 950; n-- {
		s.Enter()
		wantFind(t, s, "x", n+1)
		wantDeclare(t, s, "x", n, api.OK)
		wantFind(t, s, "x", n)
	}
	for n := 950; n < 1000; n++ {
		wantFind(t, s, "x", n)
		wantLeave(t, s, api.OK)
	}
	wantFind(t, s, "x", 1000)
	wantDepth(t, s, 1)
}

// Sc3: also 0 hides, and a name that is refused hides nothing.
func TestZeroHides(t *testing.T) {
	s := made(t)
	wantDeclare(t, s, "x", 3, api.OK)
	s.Enter()
	wantDeclare(t, s, "x", 0, api.OK)
	wantFind(t, s, "x", 0)
	wantDeclare(t, s, "x", 4, api.ErrArg)
	wantFind(t, s, "x", 0)
	s.Enter()
	wantFind(t, s, "x", 0)
	wantLeave(t, s, api.OK)
	wantLeave(t, s, api.OK)
	wantFind(t, s, "x", 3)
}

// Sc3: behind Enter and Leave all is as it was ahead, whatever was done between them.
func TestEnterAndLeave(t *testing.T) {
	s := made(t)
	for i, name := range oddNames[:10] {
		wantDeclare(t, s, name, i, api.OK)
	}
	for depth := 1; depth <= 4; depth++ {
		s.Enter()
		for i, name := range oddNames {
			wantDeclare(t, s, name, -i, api.OK)
		}
		s.Enter()
		wantDeclare(t, s, "a", 77, api.OK)
		wantLeave(t, s, api.OK)
		wantLeave(t, s, api.OK)
		wantDepth(t, s, depth)
		for i, name := range oddNames[:10] {
			wantFind(t, s, name, i)
		}
		wantNone(t, s, oddNames[10:]...)
		s.Enter()
	}
}

// R4: of two Scopes neither knows what the other declares, enters or leaves.
func TestTwoScopes(t *testing.T) {
	a, b := made(t), made(t)
	if a == b {
		t.Fatal("New gives one Scope twice")
	}
	wantDeclare(t, a, "x", 1, api.OK)
	wantNone(t, b, "x")
	wantDeclare(t, b, "x", 2, api.OK)
	wantDeclare(t, b, "y", 3, api.OK)
	wantFind(t, a, "x", 1)
	wantNone(t, a, "y")
	a.Enter()
	wantDepth(t, b, 1)
	wantLeave(t, b, api.ErrNone)
	wantDeclare(t, a, "x", 4, api.OK)
	wantDeclare(t, b, "x", 5, api.ErrArg)
	b.Enter()
	wantNone(t, b, "z")
	wantDeclare(t, b, "x", 6, api.OK)
	wantFind(t, a, "x", 4)
	wantLeave(t, a, api.OK)
	wantDepth(t, b, 2)
	wantFind(t, b, "x", 6)
	wantFind(t, a, "x", 1)
	wantLeave(t, b, api.OK)
	wantFind(t, b, "x", 2)
	wantNone(t, made(t), "x", "y")
}

// What the chapter tells, in brackets, of a Scope that New did not give; no call makes one that can be used of it.
func TestNotGiven(t *testing.T) {
	var empty Scope
	for _, s := range []*Scope{nil, {}, new(Scope), &empty} {
		for range 3 {
			wantDepth(t, s, 0)
			wantLeave(t, s, api.ErrArg)
			for _, name := range []string{"", "x"} {
				wantNone(t, s, name)
				for _, id := range ends {
					wantDeclare(t, s, name, id, api.ErrArg)
				}
				wantNone(t, s, name)
			}
			wantDepth(t, s, 0)
			s.Enter()
		}
		wantDepth(t, s, 0)
		s.Enter()
		s.Enter()
		wantLeave(t, s, api.ErrArg)
		wantDeclare(t, s, "x", 1, api.ErrArg)
		wantNone(t, s, "x")
	}
	wantDepth(t, made(t), 1)
}

// LANGUAGE.md, 8: of a block that ended nothing is kept.
func TestNothingIsKept(t *testing.T) {
	s := made(t)
	for range 100 {
		s.Enter()
		wantDeclare(t, s, "x", 1, api.OK)
	}
	for range 100 {
		wantLeave(t, s, api.OK)
	}
	for i, block := range s.blocks[:cap(s.blocks)] {
		if block != nil {
			t.Errorf("block %d is kept", i)
		}
	}
}

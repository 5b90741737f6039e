package scope

import (
	"math/rand"
	"strconv"
	"testing"

	"crucible/api"
)

// row is a model of a Scope, written apart: all that was declared stands in one list, each with the depth that it was declared at.
type row struct {
	depth    int
	declared []declaration
}

type declaration struct {
	name      string
	id, depth int
}

func (r *row) enter() { r.depth++ }

func (r *row) leave() api.Errno {
	if r.depth == 1 {
		return api.ErrNone
	}
	for n := len(r.declared); n > 0 && r.declared[n-1].depth == r.depth; n-- {
		r.declared = r.declared[:n-1]
	}
	r.depth--
	return api.OK
}

func (r *row) declare(name string, id int) api.Errno {
	for _, d := range r.declared {
		if d.name == name && d.depth == r.depth {
			return api.ErrArg
		}
	}
	r.declared = append(r.declared, declaration{name, id, r.depth})
	return api.OK
}

func (r *row) find(name string) (int, bool) {
	for n := len(r.declared); n > 0; n-- {
		if d := r.declared[n-1]; d.name == name {
			return d.id, true
		}
	}
	return 0, false
}

// same fails unless the Scope tells of these names, and of its depth, what the model tells.
func same(t *testing.T, s *Scope, r *row, names []string, done string) {
	t.Helper()
	if s.Depth() != r.depth {
		t.Fatalf("%s: Depth %d, not %d", done, s.Depth(), r.depth)
	}
	for _, name := range names {
		id, ok := s.Find(name)
		if wantId, want := r.find(name); id != wantId || ok != want {
			t.Fatalf("%s: Find(%q) %d, %v, not %d, %v", done, name, id, ok, wantId, want)
		}
	}
}

// step does one call on both, and fails unless both answer the same.
func step(t *testing.T, s *Scope, r *row, call byte, id int, done string) {
	t.Helper()
	got, want := api.OK, api.OK
	switch call {
	case '(':
		s.Enter()
		r.enter()
	case ')':
		got, want = s.Leave(), r.leave()
	default:
		got, want = s.Declare(string(call), id), r.declare(string(call), id)
	}
	if got != want {
		t.Fatalf("%s: %c answers %d, not %d", done, call, got, want)
	}
}

// Sc1, Sc2, Sc3: all short rows of calls, with what is known behind each call; the numbers are the calls'.
func TestAllShortRows(t *testing.T) {
	const calls, most = "()ab", 7
	names := []string{"a", "b", "c", ""}
	rows := []string{""}
	for len(rows) > 0 {
		done := rows[0]
		rows = rows[1:]
		s, r := made(t), &row{depth: 1}
		for i := range len(done) {
			step(t, s, r, done[i], i, done)
			same(t, s, r, names, done)
		}
		if len(done) == most {
			continue
		}
		for i := range len(calls) {
			rows = append(rows, done+calls[i:i+1])
		}
	}
}

// Sc1, Sc2, Sc3: long rows of calls, some that mostly go in, some that mostly come out.
func TestRandomRows(t *testing.T) {
	names := []string{"a", "b", "c", "d", "e", "f", "g", "h"}
	for seed := range 200 {
		random := rand.New(rand.NewSource(int64(seed)))
		calls := "abcdefgh" + []string{"()", "(()", "())", "((()))", "(((()"}[seed%5]
		s, r := made(t), &row{depth: 1}
		for i := range 500 {
			done := "seed " + strconv.Itoa(seed) + ", call " + strconv.Itoa(i)
			step(t, s, r, calls[random.Intn(len(calls))], random.Int()-random.Int(), done)
			same(t, s, r, names, done)
		}
	}
}

// Sc1, Sc2: many names in one block, and many blocks.
func TestMany(t *testing.T) {
	s := made(t)
	const many = 20000
	for i := range many {
		wantDeclare(t, s, strconv.Itoa(i), i, api.OK)
	}
	for i := range many {
		s.Enter()
		if i%1000 == 0 {
			wantDeclare(t, s, "deep", i, api.OK)
		}
	}
	wantDepth(t, s, many+1)
	for i := 0; i < many; i += 997 {
		wantFind(t, s, strconv.Itoa(i), i)
	}
	wantNone(t, s, strconv.Itoa(many), "-1")
	for i := many - 1; i >= 0; i-- {
		if i%100 == 0 {
			wantFind(t, s, "deep", i/1000*1000)
		}
		wantLeave(t, s, api.OK)
	}
	wantNone(t, s, "deep")
	wantDepth(t, s, 1)
	for i := range many {
		wantFind(t, s, strconv.Itoa(i), i)
		wantDeclare(t, s, strconv.Itoa(i), -1, api.ErrArg)
	}
}

package types

import (
	"math"
	"math/rand"
	"reflect"
	"slices"
	"strconv"
	"testing"

	"crucible/api"
)

// memberTypes are types that a member may have, with the sizes and alignments that the document gives them.
var memberTypes = []struct {
	t           api.Type
	size, align int
}{
	{of(api.TypeChar), 1, 1},
	{of(api.TypeInt), 4, 4},
	{of(api.TypeUint), 4, 4},
	{array(api.TypeChar, 1), 1, 1},
	{array(api.TypeChar, 2), 2, 1},
	{array(api.TypeChar, 3), 3, 1},
	{array(api.TypeChar, 4), 4, 1},
	{array(api.TypeChar, 5), 5, 1},
	{array(api.TypeChar, 1024), 1024, 1},
	{array(api.TypeInt, 1), 4, 4},
	{array(api.TypeUint, 3), 12, 4},
	{array(api.TypeInt, 1024), 4096, 4},
	{array(api.TypeUint, 1024), 4096, 4},
}

// wrongMembers are types that no member may have.
var wrongMembers = []api.Type{
	of(api.TypeVoid), record(0), record(1), refArray(api.TypeInt), refArray(api.TypeChar), refRecord(0), of(-1), of(8), of(math.MaxInt), of(math.MinInt),
	array(api.TypeInt, 0), array(api.TypeChar, 1025), array(api.TypeChar, -1), array(api.TypeVoid, 3), array(api.TypeArray, 3), array(api.TypeStruct, 3), array(math.MinInt, 1), array(api.TypeInt, math.MaxInt),
	{Kind: api.TypeInt, Elem: api.TypeInt}, {Kind: api.TypeUint, Len: 1}, {Kind: api.TypeChar, Struct: 1}, {Kind: api.TypeArray, Elem: api.TypeInt, Len: 1, Struct: 1},
}

// goingUp is the first place from at on that is a multiple of unit.
func goingUp(at, unit int) int {
	for at%unit != 0 {
		at++
	}
	return at
}

// laid is the record that should be of members of these types (by their numbers among memberTypes).
func laid(name string, which []int) api.Record {
	r := api.Record{Name: name}
	behind, greatest := 0, 1
	for i, w := range which {
		m := memberTypes[w]
		at := goingUp(behind, m.align)
		r.Members = append(r.Members, api.Member{Name: "m" + strconv.Itoa(i), Type: m.t, At: at})
		behind = at + m.size
		greatest = max(greatest, m.align)
	}
	r.Size = goingUp(behind, greatest)
	return r
}

// unlaid are a record's members without their places, or with ones that tell nothing.
func unlaid(r api.Record, at int) []api.Member {
	l := slices.Clone(r.Members)
	for i := range l {
		l[i].At = at
	}
	return l
}

func wantLayout(t *testing.T, which ...int) {
	t.Helper()
	want := laid("some", which)
	for _, at := range []int{0, -1, math.MaxInt} {
		got, e := Layout("some", unlaid(want, at))
		if e != api.OK || !reflect.DeepEqual(got, want) {
			t.Errorf("Layout of %v: %+v, %d, not %+v", which, got, e, want)
		}
	}
}

func wantNoLayout(t *testing.T, l []api.Member, want api.Errno) {
	t.Helper()
	before := slices.Clone(l)
	if r, e := Layout("some", l); e != want || r.Name != "" || len(r.Members) != 0 || r.Size != 0 {
		t.Errorf("Layout(%+v): %+v, %d, not %d", l, r, e, want)
	}
	if !slices.Equal(l, before) {
		t.Errorf("Layout changed %+v to %+v", before, l)
	}
}

// many are n chars of unlike names.
func many(n int) []api.Member {
	l := make([]api.Member, n)
	for i := range l {
		l[i] = api.Member{Name: "n" + strconv.Itoa(i), Type: of(api.TypeChar)}
	}
	return l
}

// Ty2, with the chapter's example and others written out.
func TestLayoutWrittenOut(t *testing.T) {
	char, integer, text := of(api.TypeChar), of(api.TypeInt), array(api.TypeChar, 3)
	for _, x := range []struct {
		types []api.Type
		at    []int
		size  int
	}{
		{[]api.Type{char, integer, text}, []int{0, 4, 8}, 12},
		{[]api.Type{char, integer}, []int{0, 4}, 8},
		{[]api.Type{integer, char}, []int{0, 4}, 8},
		{[]api.Type{char}, []int{0}, 1},
		{[]api.Type{char, char, char}, []int{0, 1, 2}, 3},
		{[]api.Type{text, text}, []int{0, 3}, 6},
		{[]api.Type{text, char, integer}, []int{0, 3, 4}, 8},
		{[]api.Type{text, text, of(api.TypeUint), char}, []int{0, 3, 8, 12}, 16},
		{[]api.Type{char, array(api.TypeUint, 2), char, array(api.TypeInt, 1)}, []int{0, 4, 12, 16}, 20},
		{[]api.Type{array(api.TypeChar, 1024), integer}, []int{0, 1024}, 1028},
	} {
		var l []api.Member
		for i, mt := range x.types {
			l = append(l, api.Member{Name: strconv.Itoa(i), Type: mt, At: 99})
		}
		r, e := Layout("", l)
		if e != api.OK || r.Name != "" || r.Size != x.size || len(r.Members) != len(l) {
			t.Errorf("Layout of %+v: %+v, %d", x.types, r, e)
			continue
		}
		for i, m := range r.Members {
			if m != (api.Member{Name: strconv.Itoa(i), Type: x.types[i], At: x.at[i]}) {
				t.Errorf("Layout of %+v: member %d is %+v, not at %d", x.types, i, m, x.at[i])
			}
		}
	}
}

// Ty2, Ty4: members of each type beside each other one.
func TestLayoutOfEachBesideEach(t *testing.T) {
	for a := range memberTypes {
		wantLayout(t, a)
		for b := range memberTypes {
			wantLayout(t, a, b)
			for c := range memberTypes {
				wantLayout(t, a, b, c)
			}
		}
	}
}

// Ty4, asked of what is told alone: apart, in order, where the alignment lets, no place that could be less.
func TestLayoutLiesApart(t *testing.T) {
	r := rand.New(rand.NewSource(10))
	for range 2000 {
		which := make([]int, 1+r.Intn(api.MaxFields))
		for i := range which {
			which[i] = r.Intn(len(memberTypes))
		}
		got, e := Layout("s", unlaid(laid("s", which), 3))
		if e != api.OK {
			t.Fatalf("Layout of %v: %d", which, e)
		}
		behind, greatest := 0, 1
		for i, m := range got.Members {
			kind := memberTypes[which[i]]
			if m.At < behind || m.At%kind.align != 0 || m.At-behind >= kind.align {
				t.Fatalf("Layout of %v: member %d at %d, behind %d", which, i, m.At, behind)
			}
			behind, greatest = m.At+kind.size, max(greatest, kind.align)
		}
		if got.Size < behind || got.Size%greatest != 0 || got.Size-behind >= greatest {
			t.Fatalf("Layout of %v: %d bytes, the last end at %d", which, got.Size, behind)
		}
	}
}

// Ty2: how many members there may be; that there are too many is told ahead of all else.
func TestLayoutHowMany(t *testing.T) {
	wantNoLayout(t, nil, api.ErrArg)
	wantNoLayout(t, []api.Member{}, api.ErrArg)
	for n := 1; n <= 32; n++ {
		if r, e := Layout("s", many(n)); e != api.OK || r.Size != n || len(r.Members) != n || r.Members[n-1].At != n-1 {
			t.Errorf("Layout of %d chars: %+v, %d", n, r, e)
		}
	}
	wantLayout(t, slices.Repeat([]int{11}, 32)...)
	for _, n := range []int{33, 34, 64, 1000} {
		wantNoLayout(t, many(n), api.ErrLong)
		same, void := many(n), many(n)
		same[n-1].Name = same[0].Name
		void[0].Type = of(api.TypeVoid)
		wantNoLayout(t, same, api.ErrLong)
		wantNoLayout(t, void, api.ErrLong)
		wantNoLayout(t, make([]api.Member, n), api.ErrLong)
	}
}

// Ty2: any name may be, but none twice.
func TestLayoutNames(t *testing.T) {
	for _, n := range []int{2, 3, 32} {
		for i := range n {
			for j := range i {
				l := many(n)
				l[i].Name = l[j].Name
				wantNoLayout(t, l, api.ErrArg)
				l[i].Type = of(api.TypeInt)
				wantNoLayout(t, l, api.ErrArg)
				l[i].Name, l[j].Name = "", ""
				wantNoLayout(t, l, api.ErrArg)
			}
		}
	}
	names := []string{"", " ", "a", "A", "aa", "a ", "\x00", "\xff\xfe", "int", "\n"}
	l := many(len(names))
	for i, s := range names {
		l[i].Name = s
	}
	r, e := Layout("\xff odd", l)
	if e != api.OK || r.Name != "\xff odd" {
		t.Fatalf("Layout of odd names: %+v, %d", r, e)
	}
	for i, s := range names {
		if r.Members[i].Name != s || Find(r, s) != i {
			t.Errorf("member %d of odd names: %+v, found at %d", i, r.Members[i], Find(r, s))
		}
	}
}

// Ty2: a member of a type that none may have, at each place.
func TestLayoutWrongTypes(t *testing.T) {
	for _, wrong := range wrongMembers {
		for _, n := range []int{1, 2, 5, 32} {
			for i := range n {
				l := many(n)
				l[i].Type = wrong
				wantNoLayout(t, l, api.ErrArg)
			}
		}
	}
}

// Ty2: the first of that name, in whatever members there are.
func TestFind(t *testing.T) {
	r := api.Record{Name: "s", Members: []api.Member{{Name: "a", At: 9}, {Name: "b", Type: of(api.TypeVoid)}, {Name: "a"}, {Name: "b"}, {Name: "c"}, {Name: ""}, {Name: ""}}}
	before := slices.Clone(r.Members)
	for name, want := range map[string]int{"a": 0, "b": 1, "c": 4, "": 5, "d": -1, "A": -1, "ab": -1, "s": -1} {
		if got := Find(r, name); got != want {
			t.Errorf("Find(%q): %d, not %d", name, got, want)
		}
	}
	if !slices.Equal(r.Members, before) {
		t.Error("Find changed its record")
	}
	for _, name := range []string{"", "a"} {
		if got := Find(api.Record{Name: "a"}, name); got != -1 {
			t.Errorf("Find(%q) of no members: %d", name, got)
		}
	}
	long := api.Record{Members: many(100)}
	for i, m := range long.Members {
		if got := Find(long, m.Name); got != i {
			t.Errorf("Find(%q) of 100: %d", m.Name, got)
		}
	}
}

// R3: what is handed in, and what lies behind its end, stays; an answer is new memory, its spare room too.
func TestLayoutSharesNothing(t *testing.T) {
	room := many(8)
	for i := range room {
		room[i].At = 50 + i
	}
	before := slices.Clone(room)
	r, e := Layout("s", room[2:5])
	again, _ := Layout("s", room[2:5])
	if e != api.OK || !slices.Equal(room, before) {
		t.Errorf("Layout: %d, and what it was handed is %+v", e, room)
	}
	whole := r.Members[:cap(r.Members)]
	for i := range whole {
		whole[i] = api.Member{Name: "gone"}
	}
	if !slices.Equal(room, before) || again.Members[0].Name != "n2" {
		t.Error("an answer of Layout shares memory")
	}
	if third, _ := Layout("s", room[2:5]); !reflect.DeepEqual(third, again) {
		t.Error("Layout answers otherwise the second time")
	}
}

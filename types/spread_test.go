package types

import (
	"math"
	"math/rand"
	"slices"
	"strconv"
	"testing"

	"crucible/api"
)

// spreadSizes are the sizes of the records that the variables of these tests may be of.
var spreadSizes = []int{0, 1, 3, 4, 6, 12, 65535, 65536, 65533}

// someSizes are types that have a size where the records are of spreadSizes.
func someSizes() ([]api.Type, []int) {
	var types []api.Type
	var sizes []int
	for _, m := range memberTypes {
		types, sizes = append(types, m.t), append(sizes, m.size)
	}
	for i, n := range spreadSizes {
		types, sizes = append(types, record(i)), append(sizes, n)
	}
	return types, sizes
}

// variables are variables of these types, with places that tell nothing.
func variables(types ...api.Type) []api.Var {
	l := make([]api.Var, len(types))
	for i, x := range types {
		l[i] = api.Var{Name: "v" + strconv.Itoa(i%5), Type: x, At: math.MaxInt - i}
	}
	return l
}

func wantNoSpread(t *testing.T, l []api.Var, records []api.Record, want api.Errno) {
	t.Helper()
	before := slices.Clone(l)
	if got, n, e := Spread(l, records); len(got) != 0 || n != 0 || e != want {
		t.Errorf("Spread of %d variables: %d of them, %d bytes, %d, not %d", len(l), len(got), n, e, want)
	}
	if !slices.Equal(l, before) {
		t.Errorf("Spread changed what it was handed")
	}
}

// wantSpread holds what Spread tells against places found by going up one by one, and against ErrLong.
func wantSpread(t *testing.T, l []api.Var, sizes []int, records []api.Record) {
	t.Helper()
	want := slices.Clone(l)
	end := 0
	for i, size := range sizes {
		want[i].At = end
		end = goingUp(end+size, 4)
	}
	if end > 65536 {
		wantNoSpread(t, l, records, api.ErrLong)
		return
	}
	if got, n, e := Spread(l, records); n != end || e != api.OK || !slices.Equal(got, want) {
		t.Errorf("Spread(%+v): %+v, %d, %d, not %+v, %d", l, got, n, e, want, end)
	}
}

// Ty3, with the chapter's example and others written out.
func TestSpreadWrittenOut(t *testing.T) {
	char, integer := of(api.TypeChar), of(api.TypeInt)
	for _, x := range []struct {
		types []api.Type
		at    []int
		size  int
	}{
		{nil, nil, 0},
		{[]api.Type{char, integer}, []int{0, 4}, 8},
		{[]api.Type{char}, []int{0}, 4},
		{[]api.Type{char, char, char}, []int{0, 4, 8}, 12},
		{[]api.Type{array(api.TypeChar, 5), char, integer}, []int{0, 8, 12}, 16},
		{[]api.Type{integer, array(api.TypeUint, 3), array(api.TypeChar, 4), char}, []int{0, 4, 16, 20}, 24},
		{[]api.Type{record(2), record(0), record(4), char}, []int{0, 4, 4, 12}, 16},
	} {
		l := variables(x.types...)
		got, n, e := Spread(l, recordsOf(spreadSizes))
		if e != api.OK || n != x.size || len(got) != len(l) {
			t.Errorf("Spread of %+v: %+v, %d, %d", x.types, got, n, e)
			continue
		}
		for i, v := range got {
			if v != (api.Var{Name: l[i].Name, Type: l[i].Type, At: x.at[i]}) {
				t.Errorf("Spread of %+v: variable %d is %+v, not at %d", x.types, i, v, x.at[i])
			}
		}
	}
}

// Ty3: variables of each type that has a size, one behind the other; some of these are together too long.
func TestSpreadOfEachBehindEach(t *testing.T) {
	types, sizes := someSizes()
	records := recordsOf(spreadSizes)
	for a := range types {
		wantSpread(t, variables(types[a]), []int{sizes[a]}, records)
		for b := range types {
			wantSpread(t, variables(types[a], types[b]), []int{sizes[a], sizes[b]}, records)
			for c := range types {
				wantSpread(t, variables(types[a], types[b], types[c]), []int{sizes[a], sizes[b], sizes[c]}, records)
			}
		}
	}
}

// Ty4, asked of what is told alone.
func TestSpreadLiesApart(t *testing.T) {
	types, sizes := someSizes()
	records := recordsOf(spreadSizes)
	r := rand.New(rand.NewSource(3))
	told := 0
	for range 2000 {
		which := make([]int, r.Intn(20))
		for i := range which {
			which[i] = r.Intn(len(memberTypes) + 6)
		}
		l := make([]api.Var, len(which))
		for i, w := range which {
			l[i] = api.Var{Name: strconv.Itoa(i), Type: types[w]}
		}
		got, n, e := Spread(l, records)
		if e != api.OK {
			continue
		}
		told++
		behind := 0
		for i, v := range got {
			if v.At < behind || v.At%4 != 0 || v.At-behind >= 4 {
				t.Fatalf("variable %d of %v at %d, behind %d", i, which, v.At, behind)
			}
			behind = v.At + sizes[which[i]]
		}
		if n < behind || n%4 != 0 || n-behind >= 4 {
			t.Fatalf("%v: %d bytes, the last end at %d", which, n, behind)
		}
	}
	if told < 1500 {
		t.Errorf("just %d lists could be spread", told)
	}
}

// Ty3: just 2^16 bytes together, and more; what lies between variables counts too.
func TestSpreadAtItsEnd(t *testing.T) {
	full := slices.Repeat([]api.Type{array(api.TypeInt, 1024)}, 15)
	words := func(more ...api.Type) []api.Var { return variables(slices.Concat(full, more)...) }
	for _, x := range []struct {
		l    []api.Var
		want api.Errno
	}{
		{words(array(api.TypeUint, 1024)), api.OK},
		{words(array(api.TypeUint, 1023), of(api.TypeInt)), api.OK},
		{words(array(api.TypeUint, 1023), of(api.TypeChar)), api.OK},
		{words(array(api.TypeUint, 1023), array(api.TypeChar, 3)), api.OK},
		{words(array(api.TypeUint, 1023), array(api.TypeChar, 4)), api.OK},
		{words(array(api.TypeUint, 1023), array(api.TypeChar, 5)), api.ErrLong},
		{words(array(api.TypeUint, 1023), of(api.TypeChar), of(api.TypeChar)), api.ErrLong},
		{words(array(api.TypeUint, 1024), of(api.TypeChar)), api.ErrLong},
		{words(array(api.TypeUint, 1024), of(api.TypeInt)), api.ErrLong},
		{words(array(api.TypeUint, 1024), record(0)), api.OK},
		{words(array(api.TypeUint, 1024), record(1)), api.ErrLong},
		{variables(record(7)), api.OK},
		{variables(record(6)), api.OK},
		{variables(record(8)), api.OK},
		{variables(record(7), record(0), record(0)), api.OK},
		{variables(record(7), of(api.TypeChar)), api.ErrLong},
		{variables(of(api.TypeChar), record(7)), api.ErrLong},
		{variables(slices.Repeat([]api.Type{of(api.TypeChar)}, 16384)...), api.OK},
		{variables(slices.Repeat([]api.Type{of(api.TypeChar)}, 16385)...), api.ErrLong},
		{variables(slices.Repeat([]api.Type{array(api.TypeChar, 5)}, 8192)...), api.OK},
		{variables(slices.Repeat([]api.Type{array(api.TypeChar, 5)}, 8193)...), api.ErrLong},
		{variables(slices.Repeat([]api.Type{record(7)}, 40000)...), api.ErrLong},
	} {
		if x.want != api.OK {
			wantNoSpread(t, x.l, recordsOf(spreadSizes), x.want)
			continue
		}
		got, n, e := Spread(x.l, recordsOf(spreadSizes))
		if e != api.OK || n != 65536 || len(got) != len(x.l) {
			t.Errorf("Spread of %d variables: %d of them, %d bytes, %d", len(x.l), len(got), n, e)
		}
	}
}

// Ty3: a variable without a size, alone, within, and behind and ahead of ones that are together too long.
func TestSpreadWithoutASize(t *testing.T) {
	records := recordsOf(spreadSizes)
	wrong := []api.Type{record(len(spreadSizes)), record(-1), record(math.MaxInt), refRecord(0), refArray(api.TypeChar)}
	for _, x := range wrongMembers {
		if x.Kind != api.TypeStruct {
			wrong = append(wrong, x)
		}
	}
	for _, x := range wrong {
		char, long := of(api.TypeChar), record(7)
		for _, l := range [][]api.Type{{x}, {char, x}, {x, char}, {char, x, char}, {x, long, long}, {long, x, long}, {long, long, x}, {long, long, char, char, x, x}} {
			wantNoSpread(t, variables(l...), records, api.ErrArg)
		}
	}
	wantNoSpread(t, variables(record(0)), nil, api.ErrArg)
	wantNoSpread(t, variables(of(api.TypeInt), record(1)), records[:1], api.ErrArg)
}

// R3: what is handed in, and what lies behind its end, stays; an answer is new memory, its spare room too.
func TestSpreadSharesNothing(t *testing.T) {
	types, _ := someSizes()
	room := variables(types[:10]...)
	records := recordsOf(spreadSizes)
	before := slices.Clone(room)
	first, _, e := Spread(room[2:6], records)
	again, _, _ := Spread(room[2:6], records)
	if e != api.OK || !slices.Equal(room, before) {
		t.Errorf("Spread: %d, and what it was handed is %+v", e, room)
	}
	whole := first[:cap(first)]
	for i := range whole {
		whole[i] = api.Var{Name: "gone"}
	}
	third, _, _ := Spread(room[2:6], records)
	if !slices.Equal(room, before) || !slices.Equal(third, again) {
		t.Error("an answer of Spread shares memory")
	}
	for i, n := range spreadSizes {
		if records[i].Size != n || records[i].Name != "r" || records[i].Members != nil {
			t.Errorf("Spread changed record %d: %+v", i, records[i])
		}
	}
}

// What Layout tells is what Size and Spread go by.
func TestLaidRecordsAreSpread(t *testing.T) {
	var records []api.Record
	var l []api.Var
	want := 0
	for _, which := range [][]int{{0}, {0, 1, 5}, {5, 5}, {2, 0}, {7, 10}} {
		r, e := Layout("s"+strconv.Itoa(len(records)), unlaid(laid("", which), 0))
		if e != api.OK {
			t.Fatalf("Layout of %v: %d", which, e)
		}
		l = append(l, api.Var{Name: "v", Type: record(len(records))})
		records = append(records, r)
		want += goingUp(r.Size, 4)
	}
	if _, n, e := Spread(l, records); n != want || e != api.OK {
		t.Errorf("Spread of laid records: %d, %d, not %d", n, e, want)
	}
}

package types

import (
	"math"
	"slices"
	"testing"

	"crucible/api"
)

func of(kind int) api.Type { return api.Type{Kind: kind} }

func array(elem, n int) api.Type { return api.Type{Kind: api.TypeArray, Elem: elem, Len: n} }

func record(n int) api.Type { return api.Type{Kind: api.TypeStruct, Struct: n} }

func refArray(elem int) api.Type { return api.Type{Kind: api.TypeRefArray, Elem: elem} }

func refRecord(n int) api.Type { return api.Type{Kind: api.TypeRefStruct, Struct: n} }

// scalars are the kinds of scalars, with how many bytes the document says that they have.
var scalars = []struct{ kind, size int }{{api.TypeInt, 4}, {api.TypeUint, 4}, {api.TypeChar, 1}}

// numbers are those that a part of a type is tried with: all that are near an edge, and the ends of what an int has.
var numbers = []int{math.MinInt, math.MinInt + 1, math.MinInt32, -1025, -1024, -4, -3, -2, -1, 0, 1, 2, 3, 4, 5, 6, 7, 8, 9, 31, 32, 33, 255, 256, 257, 1023, 1024, 1025, 65536, math.MaxInt32, math.MaxInt32 + 1, math.MaxInt - 1, math.MaxInt}

// allowed are the types that may be where there are so many records (at most 40), their sizes; -1: there is none.
func allowed(sizes []int) map[api.Type]int {
	m := map[api.Type]int{of(api.TypeVoid): -1}
	for _, s := range scalars {
		m[of(s.kind)] = s.size
		m[refArray(s.kind)] = -1
		for n := 1; n <= 1024; n++ {
			m[array(s.kind, n)] = n * s.size
		}
	}
	for i, size := range sizes {
		m[record(i)] = size
		m[refRecord(i)] = -1
	}
	return m
}

// recordsOf are records of these sizes.
func recordsOf(sizes []int) []api.Record {
	var l []api.Record
	for _, n := range sizes {
		l = append(l, api.Record{Name: "r", Size: n})
	}
	return l
}

func wantType(t *testing.T, x api.Type, l []api.Record, may map[api.Type]int) {
	t.Helper()
	size, ok := may[x]
	want, wantSize := api.OK, api.OK
	if !ok {
		want = api.ErrArg
	}
	if !ok || size < 0 {
		size, wantSize = 0, api.ErrArg
	}
	if e := Check(x, len(l)); e != want {
		t.Errorf("Check(%+v, %d): %d, not %d", x, len(l), e, want)
	}
	if n, e := Size(x, l); n != size || e != wantSize {
		t.Errorf("Size(%+v) of %d records: %d, %d, not %d, %d", x, len(l), n, e, size, wantSize)
	}
}

// Ty1: each type with each number in each of its parts may be just if it is one of those that the document lists.
func TestTypesThatMayBe(t *testing.T) {
	parts := []int{math.MinInt, -1, 0, 1, 2, 3, 4, 7, 8, 1024, 1025, math.MaxInt}
	for _, sizes := range [][]int{nil, {12}, {0, 7, 65536}} {
		l, may := recordsOf(sizes), allowed(sizes)
		for _, kind := range numbers {
			for _, elem := range parts {
				for _, n := range parts {
					for _, which := range parts {
						wantType(t, api.Type{Kind: kind, Elem: elem, Len: n, Struct: which}, l, may)
					}
				}
			}
		}
	}
}

// Ty1: the number in the part that counts, at every number that is near an edge, and none in the others.
func TestPartsThatCount(t *testing.T) {
	for records := 0; records <= 33; records++ {
		sizes := make([]int, records)
		for i := range sizes {
			sizes[i] = 100 + i
		}
		l, may := recordsOf(sizes), allowed(sizes)
		for _, n := range numbers {
			for _, x := range []api.Type{of(n), record(n), refRecord(n), refArray(n), array(n, 1), array(n, 1024)} {
				wantType(t, x, l, may)
			}
			for _, s := range scalars {
				wantType(t, array(s.kind, n), l, may)
			}
		}
	}
}

func TestArraysOfEachLength(t *testing.T) {
	may := allowed(nil)
	for n := -3; n <= 1030; n++ {
		for _, s := range scalars {
			wantType(t, array(s.kind, n), nil, may)
		}
	}
}

// Ty1: a part that counts for no type of the kind must be zero.
func TestPartsThatMustBeZero(t *testing.T) {
	wrong := []api.Type{
		{Kind: api.TypeVoid, Elem: api.TypeInt}, {Kind: api.TypeVoid, Len: 1}, {Kind: api.TypeVoid, Struct: 1},
		{Kind: api.TypeInt, Elem: api.TypeInt}, {Kind: api.TypeInt, Len: 1}, {Kind: api.TypeInt, Struct: 1},
		{Kind: api.TypeUint, Elem: api.TypeInt}, {Kind: api.TypeUint, Len: 1}, {Kind: api.TypeUint, Struct: 1},
		{Kind: api.TypeChar, Elem: api.TypeChar}, {Kind: api.TypeChar, Len: 1}, {Kind: api.TypeChar, Struct: 1},
		{Kind: api.TypeArray, Elem: api.TypeChar, Len: 1, Struct: 1}, {Kind: api.TypeArray, Elem: api.TypeInt, Len: 3, Struct: -1},
		{Kind: api.TypeStruct, Elem: api.TypeInt}, {Kind: api.TypeStruct, Len: 1}, {Kind: api.TypeStruct, Struct: 1, Len: -1},
		{Kind: api.TypeRefArray, Elem: api.TypeInt, Len: 1}, {Kind: api.TypeRefArray, Elem: api.TypeInt, Len: -1}, {Kind: api.TypeRefArray, Elem: api.TypeInt, Struct: 1},
		{Kind: api.TypeRefStruct, Elem: api.TypeInt}, {Kind: api.TypeRefStruct, Len: 1}, {Kind: api.TypeRefStruct, Struct: 1, Elem: api.TypeChar},
	}
	l := recordsOf([]int{4, 8})
	for _, x := range wrong {
		if e := Check(x, 2); e != api.ErrArg {
			t.Errorf("Check(%+v, 2): %d, not ErrArg", x, e)
		}
		if n, e := Size(x, l); n != 0 || e != api.ErrArg {
			t.Errorf("Size(%+v): %d, %d, not ErrArg", x, n, e)
		}
	}
}

// Ty1: how many records there are may be any number; below 0 there are none.
func TestHowManyRecords(t *testing.T) {
	for _, records := range numbers {
		for _, n := range numbers {
			want := api.ErrArg
			if n >= 0 && n < records {
				want = api.OK
			}
			for _, x := range []api.Type{record(n), refRecord(n)} {
				if e := Check(x, records); e != want {
					t.Errorf("Check(%+v, %d): %d, not %d", x, records, e, want)
				}
			}
		}
		for _, x := range []api.Type{of(api.TypeVoid), of(api.TypeChar), array(api.TypeUint, 1024), refArray(api.TypeInt)} {
			if e := Check(x, records); e != api.OK {
				t.Errorf("Check(%+v, %d): %d", x, records, e)
			}
		}
	}
}

// Ty1: a struct's size is what its record says, whatever its members are.
func TestSizeOfRecords(t *testing.T) {
	members := []api.Member{{Name: "a", Type: of(api.TypeInt)}, {Name: "b", Type: of(api.TypeVoid), At: -7}}
	l := []api.Record{{Name: "x", Size: 0, Members: members}, {Size: 1}, {Size: 7, Members: members[:1]}, {Size: 65535}, {Size: 65536}}
	for i, r := range l {
		if n, e := Size(record(i), l); n != r.Size || e != api.OK {
			t.Errorf("Size of record %d: %d, %d, not %d", i, n, e, r.Size)
		}
	}
	if members[1].At != -7 || l[2].Size != 7 {
		t.Error("Size changed what it was handed")
	}
}

// Ty1: Scalar asks the kind alone.
func TestScalar(t *testing.T) {
	for _, kind := range numbers {
		want := slices.ContainsFunc(scalars, func(s struct{ kind, size int }) bool { return s.kind == kind })
		for _, x := range []api.Type{of(kind), {Kind: kind, Elem: api.TypeInt}, {Kind: kind, Len: 5}, {Kind: kind, Struct: -1}} {
			if Scalar(x) != want {
				t.Errorf("Scalar(%+v): %v", x, !want)
			}
		}
	}
	for _, x := range []api.Type{array(api.TypeInt, 2), refArray(api.TypeChar), record(1), refRecord(2), {Elem: api.TypeUint}} {
		if Scalar(x) {
			t.Errorf("Scalar(%+v)", x)
		}
	}
}

// Ty1: all but a uint is reckoned as an int.
func TestPromoted(t *testing.T) {
	for _, kind := range numbers {
		want := api.TypeInt
		if kind == 2 {
			want = api.TypeUint
		}
		if got := Promoted(kind); got != want {
			t.Errorf("Promoted(%d): %d, not %d", kind, got, want)
		}
	}
}

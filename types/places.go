package types

import (
	"strings"

	"crucible/api"
)

// Layout is a struct with its members' places.
func Layout(name string, l []api.Member) (api.Record, api.Errno) {
	if len(l) > api.MaxFields {
		return api.Record{}, api.ErrLong
	}
	if !membersMayBe(l) {
		return api.Record{}, api.ErrArg
	}
	r := api.Record{Name: strings.Clone(name), Members: make([]api.Member, len(l))}
	greatest := 1
	for i, m := range l {
		size, _ := Size(m.Type, nil)
		align := alignment(m.Type)
		at := roundedUp(r.Size, align)
		r.Members[i] = api.Member{Name: strings.Clone(m.Name), Type: m.Type, At: at}
		r.Size = at + size
		greatest = max(greatest, align)
	}
	r.Size = roundedUp(r.Size, greatest)
	return r, api.OK
}

// membersMayBe tells whether there are members, each a scalar or an array, no two of one name.
func membersMayBe(l []api.Member) bool {
	for i, m := range l {
		if !Scalar(m.Type) && m.Type.Kind != api.TypeArray || Check(m.Type, 0) != api.OK {
			return false
		}
		if named(l[:i], m.Name) >= 0 {
			return false
		}
	}
	return len(l) > 0
}

// alignment is that of a scalar or an array.
func alignment(t api.Type) int {
	if t.Kind == api.TypeArray {
		return scalarSize(t.Elem)
	}
	return scalarSize(t.Kind)
}

// roundedUp is the least multiple of unit that is not below n.
func roundedUp(n, unit int) int { return (n + unit - 1) / unit * unit }

// Find is a member by its name; -1: there is none.
func Find(r api.Record, name string) int { return named(r.Members, name) }

func named(l []api.Member, name string) int {
	for i, m := range l {
		if m.Name == name {
			return i
		}
	}
	return -1
}

// Spread is variables with their places, one behind the other, and how many bytes they take.
func Spread(l []api.Var, records []api.Record) ([]api.Var, int, api.Errno) {
	spread := make([]api.Var, len(l))
	end := 0
	for i, v := range l {
		size, e := Size(v.Type, records)
		if e != api.OK {
			return nil, 0, e
		}
		spread[i] = api.Var{Name: strings.Clone(v.Name), Type: v.Type, At: end}
		end = roundedUp(end+size, wordSize)
	}
	// Asked only here: a variable without a size further behind is told ahead of all being too long.
	if end > api.MaxGlobal {
		return nil, 0, api.ErrLong
	}
	return spread, end, api.OK
}

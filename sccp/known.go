package sccp

import (
	"crucible/api"
	"crucible/word"
)

var many = api.Known{Kind: api.KnownMany}

func one(value int32) api.Known { return api.Known{Kind: api.KnownOne, Value: value} }

// joined is what is known of what may be either.
func joined(a, b api.Known) api.Known {
	switch {
	case a.Kind == api.KnownNone:
		return b
	case b.Kind == api.KnownNone || a == b:
		return a
	}
	return many
}

// reckoned is what is known of what an OpAlu makes of two.
func reckoned(alu int, a, b api.Known) api.Known {
	switch {
	case a.Kind == api.KnownNone || b.Kind == api.KnownNone:
		return api.Known{}
	case a.Kind == api.KnownMany || b.Kind == api.KnownMany:
		return many
	}
	value, trap := word.Alu(alu, uint32(a.Value), uint32(b.Value))
	if trap != api.TrapNone {
		return many
	}
	return one(int32(value))
}

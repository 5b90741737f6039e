package brick

import (
	"strings"

	"crucible/api"
	"crucible/irrun"
)

// Run is how a program is run.
type Run struct {
	Input      string
	Fuel, Deep int
}

// Unlike tells whether not the same comes of two programs: they end otherwise, or, where the fuel did not do, what one
// put, and got, is no beginning of what the other did. It tells how the first one ended, too.
func Unlike(p, q api.Program, how Run, fuel int) (api.End, bool) {
	a, b := irrun.Run(p, how.Input, how.Fuel, how.Deep), irrun.Run(q, how.Input, fuel, how.Deep)
	switch {
	case a.Kind != api.EndFuel && b.Kind != api.EndFuel:
		return a, a != b
	case a.Kind != api.EndFuel:
		return a, !goesOn(b, a)
	case b.Kind != api.EndFuel:
		return a, !goesOn(a, b)
	}
	return a, !goesOn(a, b) && !goesOn(b, a)
}

// goesOn tells whether an end may be what a run that had not fuel enough would have come to.
func goesOn(short, end api.End) bool {
	return strings.HasPrefix(end.Out, short.Out) && short.Used <= end.Used
}

package lower

import (
	"strings"
	"testing"

	"crucible/api"
	"crucible/check"
	"crucible/ir"
	"crucible/irrun"
	"crucible/source"
)

// plenty is fuel that is enough for whatever ends here.
const plenty = 200_000_000

// checked is the checked program of a source that is one.
func checked(t *testing.T, src string) api.Checked {
	t.Helper()
	c, d, ok := check.Source(src)
	if !ok {
		t.Fatalf("%s: refused: %+v", src, d)
	}
	return c
}

// made is what Lower tells of a program that is not too great.
func made(t *testing.T, name string, c api.Checked) api.Program {
	t.Helper()
	p, err := Lower(c)
	if err != api.OK {
		t.Fatalf("%s: error %d", name, err)
	}
	if ir.Check(p) != api.OK {
		t.Fatalf("%s: it may not be: %+v", name, p)
	}
	return p
}

// refusedAsFull asks for ErrFull, and nothing beside it.
func refusedAsFull(t *testing.T, name string, c api.Checked) {
	t.Helper()
	p, err := Lower(c)
	if err != api.ErrFull {
		t.Errorf("%s: error %d", name, err)
	}
	if p.Funcs != nil || p.Data != nil || p.Global != 0 || p.Main != 0 {
		t.Errorf("%s: beside the error: %+v", name, p)
	}
}

func isStackTrap(e api.End) bool { return e.Kind == api.EndTrap && e.Trap == api.TrapStack }

// alike asks that what two runs put goes together.
func alike(a, b api.End) bool {
	return strings.HasPrefix(a.Out, b.Out) || strings.HasPrefix(b.Out, a.Out)
}

// held runs a program as a source with some fuel, and lowered with plenty, and holds the one against the other: it tells both ends.
func held(t *testing.T, name string, c api.Checked, p api.Program, input string, fuel, deep int) (api.End, api.End) {
	t.Helper()
	want, _, err := source.Run(c, input, fuel, deep)
	if err != api.OK {
		t.Fatalf("%s: error %d", name, err)
	}
	steps := plenty
	if want.Kind == api.EndFuel {
		steps = 10 * fuel // there may be no end
	}
	got := irrun.Run(p, input, steps, deep)
	if want.Kind != api.EndFuel && got != want && !(isStackTrap(got) && strings.HasPrefix(want.Out, got.Out)) {
		t.Fatalf("%s\ninput %q, deep %d: %+v, not %+v", name, input, deep, got, want)
	}
	if !alike(got, want) || got.Trap == api.TrapCode || got.Trap == api.TrapMemory {
		t.Fatalf("%s\ninput %q, fuel %d, deep %d: %+v, and the source %+v", name, input, fuel, deep, got, want)
	}
	return want, got
}

package source

import (
	"math/rand"
	"testing"

	"crucible/api"
	"crucible/check"
	"crucible/sample"
)

// randomSource is a program's text.
func randomSource(seed int64) string {
	return sample.Source(rand.New(rand.NewSource(seed)).Intn)
}

// sameAsModel holds a run against the model's.
func sameAsModel(t *testing.T, src string, p api.Checked, input string, fuel, deep int) (api.End, int) {
	t.Helper()
	e, n, err := Run(p, input, fuel, deep)
	want, most := modelled(p, input, fuel, deep)
	if e != want || n != most || err != api.OK {
		t.Fatalf("%s\ninput %q, fuel %d, deep %d: %+v, %d, %d; not %+v, %d", src, input, fuel, deep, e, n, err, want, most)
	}
	return e, n
}

const someInput = "some input\xff\x00 of a run"

// TestRandomPrograms holds runs of programs against the model's, and counts that all kinds of ends are met.
func TestRandomPrograms(t *testing.T) {
	var ends [4]int
	var refused, nested int
	const tries = 3000
	for seed := range int64(tries) {
		src := randomSource(seed)
		p, _, ok := check.Source(src)
		if !ok {
			refused++
			continue
		}
		g := rand.New(rand.NewSource(-seed))
		input := someInput[:g.Intn(len(someInput)+1)]
		for _, fuel := range []int{20000, g.Intn(3000), g.Intn(300)} {
			e, n := sameAsModel(t, src, p, input, fuel, []int{40, 1 + g.Intn(6), g.Intn(3)}[g.Intn(3)])
			ends[e.Kind]++
			if n > 1 {
				nested++
			}
		}
	}
	t.Log("ends", ends, "refused", refused, "nested", nested)
	if refused > tries/2 || ends[api.EndExit] < 500 || ends[api.EndTrap] < 100 || ends[api.EndFuel] < 500 || nested < 1000 {
		t.Error("too few of some kind")
	}
}

package lower

import (
	"math/rand"
	"testing"

	"crucible/api"
	"crucible/check"
	"crucible/irrun"
	"crucible/sample"
	"crucible/source"
)

const someInput = "some input\xff\x00 of a run"

// randomChecked is a program that was checked; false: the source is none.
func randomChecked(seed int64) (string, api.Checked, bool) {
	src := sample.Source(rand.New(rand.NewSource(seed)).Intn)
	c, _, ok := check.Source(src)
	return src, c, ok
}

// Lo2: what comes of programs is what comes of their sources.
func TestRandomPrograms(t *testing.T) {
	var ends [4]int
	var tried, stack, nested int
	for seed := range int64(4000) {
		src, c, ok := randomChecked(seed)
		if !ok {
			continue
		}
		tried++
		p := made(t, src, c)
		g := rand.New(rand.NewSource(-seed))
		for range 3 {
			input := someInput[:g.Intn(len(someInput)+1)]
			want, got := held(t, src, c, p, input, 20000, []int{40, 40, 1 + g.Intn(6)}[g.Intn(3)])
			ends[want.Kind]++
			if isStackTrap(got) {
				stack++
			}
			if want == got && len(want.Out) > 3 {
				nested++
			}
		}
	}
	t.Log("tried", tried, "ends", ends, "of no room", stack, "long", nested)
	if tried < 2500 || ends[api.EndExit] < 2500 || ends[api.EndTrap] < 500 || stack < 100 {
		t.Error("too few of some kind")
	}
}

// Lo2: whatever the fuels, of what both put one is a beginning of the other, and one that ends says how the other would.
func TestFuels(t *testing.T) {
	for seed := range int64(400) {
		src, c, ok := randomChecked(50000 + seed)
		if !ok {
			continue
		}
		p := made(t, src, c)
		g := rand.New(rand.NewSource(seed))
		for range 30 {
			few, steps, deep := g.Intn(1000), g.Intn(3000), 1+g.Intn(20)
			a, _, _ := source.Run(c, someInput, few, deep)
			b := irrun.Run(p, someInput, steps, deep)
			if !alike(a, b) {
				t.Fatalf("%s\nfuel %d and %d, deep %d: %+v, %+v", src, few, steps, deep, a, b)
			}
			if a.Kind != api.EndFuel && b.Kind != api.EndFuel && a != b && !isStackTrap(b) {
				t.Fatalf("%s\nfuel %d and %d, deep %d: %+v, %+v", src, few, steps, deep, a, b)
			}
			if b.Kind != api.EndFuel && !isStackTrap(b) {
				if e, _, _ := source.Run(c, someInput, plenty, deep); e != b {
					t.Fatalf("%s\ndeep %d: %+v, but the source %+v", src, deep, b, e)
				}
			}
		}
	}
}

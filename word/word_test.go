package word

import (
	"math"
	"testing"

	"crucible/api"
)

// The words around which signs, carries and shifts turn.
var edges = []uint32{
	0, 1, 2, 3, 7, 8, 31, 32, 33, 63, 64, 65, 255, 256, 300, 1<<16 - 1, 1 << 16, 1<<16 + 1,
	1<<31 - 2, 1<<31 - 1, 1 << 31, 1<<31 + 1, 1<<31 + 2, 1<<31 + 32,
	1<<32 - 65, 1<<32 - 64, 1<<32 - 33, 1<<32 - 32, 1<<32 - 31, 1<<32 - 8, 1<<32 - 7, 1<<32 - 3, 1<<32 - 2, 1<<32 - 1,
	123456789, 987654321, 2863311530, 3735928559,
}

var noOps = []int{math.MinInt, -1 << 32, -1<<32 + api.AluAdd, -api.AluDiv, -1, 0, api.AluLeU + 1, 32, 99, 256 + api.AluAdd, 1<<32 + api.AluDiv, math.MaxInt}

var noKinds = []int{math.MinInt, -1<<32 + api.TypeUint, -api.TypeUint, -1, api.TypeRefStruct + 1, 99, 256 + api.TypeUint, 1<<32 + api.TypeChar, math.MaxInt}

// flag is written apart from the package's own, so that one does not hide the other's fault.
func flag(yes bool) uint32 {
	return map[bool]uint32{true: 1}[yes]
}

// reckon is Wo1 once more, in whole numbers that are wide enough to need no wrapping.
func reckon(op int, a, b uint32) uint32 {
	x, y := int64(int32(a)), int64(int32(b))
	u, v := int64(a), int64(b)
	switch op {
	case api.AluAdd:
		return uint32((u + v) % (1 << 32))
	case api.AluSub:
		return uint32((u - v + 1<<32) % (1 << 32))
	case api.AluMul:
		return uint32(uint64(a) * uint64(b) % (1 << 32))
	case api.AluDiv:
		return uint32(x / y)
	case api.AluDivU:
		return uint32(u / v)
	case api.AluRem:
		return uint32(x % y)
	case api.AluRemU:
		return uint32(u % v)
	case api.AluAnd, api.AluOr, api.AluXor:
		return bitwise(op, a, b)
	case api.AluShl:
		return uint32(u << (v % 32))
	case api.AluShr:
		return uint32(u >> (v % 32))
	case api.AluSar:
		return uint32(x >> (v % 32))
	case api.AluEq:
		return flag(u == v)
	case api.AluNe:
		return flag(u != v)
	case api.AluLt:
		return flag(x < y)
	case api.AluLtU:
		return flag(u < v)
	case api.AluLe:
		return flag(x <= y)
	}
	return flag(u <= v)
}

func bitwise(op int, a, b uint32) uint32 {
	var all uint32
	for i := range 32 {
		p, q := a>>i%2, b>>i%2
		var r uint32
		switch op {
		case api.AluAnd:
			r = p * q
		case api.AluOr:
			r = p + q - p*q
		case api.AluXor:
			r = (p + q) % 2
		}
		all += r << i
	}
	return all
}

func expect(t *testing.T, op int, a, b, want uint32, trap int) {
	t.Helper()
	if x, kind := Alu(op, a, b); x != want || kind != trap {
		t.Errorf("Alu(%d, %d, %d) is %d, trap %d; not %d, trap %d", op, a, b, x, kind, want, trap)
	}
}

// Wo1: each operation, by words that are written out.
func TestAluOrdinary(t *testing.T) {
	for _, c := range []struct {
		op         int
		a, b, want uint32
	}{
		{api.AluAdd, 2, 3, 5},
		{api.AluSub, 7, 3, 4},
		{api.AluMul, 6, 7, 42},
		{api.AluDiv, 20, 6, 3},
		{api.AluDivU, 20, 6, 3},
		{api.AluRem, 20, 6, 2},
		{api.AluRemU, 20, 6, 2},
		{api.AluAnd, 12, 10, 8},
		{api.AluOr, 12, 10, 14},
		{api.AluXor, 12, 10, 6},
		{api.AluShl, 3, 4, 48},
		{api.AluShr, 48, 4, 3},
		{api.AluSar, 48, 4, 3},
		{api.AluEq, 3, 3, 1},
		{api.AluEq, 3, 4, 0},
		{api.AluNe, 3, 3, 0},
		{api.AluNe, 3, 4, 1},
		{api.AluLt, 3, 4, 1},
		{api.AluLt, 4, 4, 0},
		{api.AluLt, 5, 4, 0},
		{api.AluLtU, 3, 4, 1},
		{api.AluLtU, 4, 4, 0},
		{api.AluLtU, 5, 4, 0},
		{api.AluLe, 3, 4, 1},
		{api.AluLe, 4, 4, 1},
		{api.AluLe, 5, 4, 0},
		{api.AluLeU, 3, 4, 1},
		{api.AluLeU, 4, 4, 1},
		{api.AluLeU, 5, 4, 0},
	} {
		expect(t, c.op, c.a, c.b, c.want, api.TrapNone)
	}
}

// Wo1: sums, differences and products wrap.
func TestAluWraps(t *testing.T) {
	expect(t, api.AluAdd, 1<<32-1, 1, 0, api.TrapNone)
	expect(t, api.AluAdd, 1<<31, 1<<31, 0, api.TrapNone)
	expect(t, api.AluAdd, 1<<31-1, 1, 1<<31, api.TrapNone)
	expect(t, api.AluSub, 0, 1, 1<<32-1, api.TrapNone)
	expect(t, api.AluSub, 1<<31, 1, 1<<31-1, api.TrapNone)
	expect(t, api.AluMul, 1<<16, 1<<16, 0, api.TrapNone)
	expect(t, api.AluMul, 1<<32-1, 1<<32-1, 1, api.TrapNone)
	expect(t, api.AluMul, 1<<31, 3, 1<<31, api.TrapNone)
}

// Wo1: quotients are rounded to 0, what is left has a's sign; without sign the same words are others.
func TestAluSigns(t *testing.T) {
	const minus1, minus2, minus3, minus7 = 1<<32 - 1, 1<<32 - 2, 1<<32 - 3, 1<<32 - 7
	for _, c := range []struct {
		op         int
		a, b, want uint32
	}{
		{api.AluDiv, minus7, 2, minus3},
		{api.AluDiv, 7, minus2, minus3},
		{api.AluDiv, minus7, minus2, 3},
		{api.AluDiv, 1, minus2, 0},
		{api.AluRem, minus7, 2, minus1},
		{api.AluRem, 7, minus2, 1},
		{api.AluRem, minus7, minus2, minus1},
		{api.AluRem, minus7, 7, 0},
		{api.AluDivU, minus7, 2, 1<<31 - 4},
		{api.AluDivU, 7, minus2, 0},
		{api.AluRemU, minus7, 2, 1},
		{api.AluRemU, 7, minus2, 7},
		{api.AluDivU, 1 << 31, minus1, 0},
		{api.AluRemU, 1 << 31, minus1, 1 << 31},
	} {
		expect(t, c.op, c.a, c.b, c.want, api.TrapNone)
	}
}

// Wo1: -2^31 by -1.
func TestAluLeastByMinusOne(t *testing.T) {
	expect(t, api.AluDiv, 1<<31, 1<<32-1, 1<<31, api.TrapNone)
	expect(t, api.AluRem, 1<<31, 1<<32-1, 0, api.TrapNone)
}

// Wo1: a division by 0 is trapped, of each of the four, whatever is divided; no other operation is.
func TestAluByZero(t *testing.T) {
	for _, a := range edges {
		for _, op := range []int{api.AluDiv, api.AluRem, api.AluDivU, api.AluRemU} {
			expect(t, op, a, 0, 0, api.TrapDivide)
		}
		expect(t, api.AluMul, a, 0, 0, api.TrapNone)
		expect(t, api.AluShr, a, 0, a, api.TrapNone)
	}
}

// Wo1: shifts go modulo 32; to the right the sign stays or does not.
func TestAluShifts(t *testing.T) {
	const minus8 = 1<<32 - 8
	for _, c := range []struct {
		op         int
		a, b, want uint32
	}{
		{api.AluShl, 1, 31, 1 << 31},
		{api.AluShl, 5, 32, 5},
		{api.AluShl, 5, 33, 10},
		{api.AluShl, 5, 1<<32 - 1, 1 << 31},
		{api.AluShl, 5, 1 << 31, 5},
		{api.AluShr, minus8, 31, 1},
		{api.AluShr, minus8, 32, minus8},
		{api.AluShr, minus8, 33, 1<<31 - 4},
		{api.AluShr, minus8, 64, minus8},
		{api.AluShr, minus8, 1<<32 - 1, 1},
		{api.AluSar, minus8, 1, 1<<32 - 4},
		{api.AluSar, minus8, 31, 1<<32 - 1},
		{api.AluSar, minus8, 32, minus8},
		{api.AluSar, minus8, 33, 1<<32 - 4},
		{api.AluSar, minus8, 1<<32 - 1, 1<<32 - 1},
		{api.AluSar, 1<<31 - 1, 30, 1},
		{api.AluSar, 1<<31 - 1, 63, 0},
	} {
		expect(t, c.op, c.a, c.b, c.want, api.TrapNone)
	}
}

// Wo1: around 2^31 the order with sign turns, that without goes on.
func TestAluComparesAroundHalf(t *testing.T) {
	for _, c := range []struct {
		a, b                 uint32
		lt, le, ltu, leu, eq uint32
	}{
		{1<<31 - 1, 1 << 31, 0, 0, 1, 1, 0},
		{1 << 31, 1<<31 - 1, 1, 1, 0, 0, 0},
		{1 << 31, 1 << 31, 0, 1, 0, 1, 1},
		{1 << 31, 1<<31 + 1, 1, 1, 1, 1, 0},
		{1<<31 - 2, 1<<31 - 1, 1, 1, 1, 1, 0},
		{1 << 31, 0, 1, 1, 0, 0, 0},
		{0, 1 << 31, 0, 0, 1, 1, 0},
		{1, 1<<32 - 1, 0, 0, 1, 1, 0},
		{1<<32 - 1, 0, 1, 1, 0, 0, 0},
	} {
		expect(t, api.AluLt, c.a, c.b, c.lt, api.TrapNone)
		expect(t, api.AluLe, c.a, c.b, c.le, api.TrapNone)
		expect(t, api.AluLtU, c.a, c.b, c.ltu, api.TrapNone)
		expect(t, api.AluLeU, c.a, c.b, c.leu, api.TrapNone)
		expect(t, api.AluEq, c.a, c.b, c.eq, api.TrapNone)
		expect(t, api.AluNe, c.a, c.b, 1-c.eq, api.TrapNone)
	}
}

// Wo1: an op that is none.
func TestAluWrongOps(t *testing.T) {
	for _, op := range noOps {
		expect(t, op, 6, 3, 0, api.TrapCode)
		expect(t, op, 6, 0, 0, api.TrapCode)
		expect(t, op, 1<<31, 1<<32-1, 0, api.TrapCode)
	}
}

// Wo1: every operation on every two of the edges.
func TestAluEverywhere(t *testing.T) {
	for op := api.AluAdd; op <= api.AluLeU; op++ {
		for _, a := range edges {
			for _, b := range edges {
				if b != 0 || op < api.AluDiv || op > api.AluRemU {
					expect(t, op, a, b, reckon(op, a, b), api.TrapNone)
				}
			}
		}
	}
}

// Wo2: chars alone are cut.
func TestConv(t *testing.T) {
	for _, c := range []struct{ x, char uint32 }{{0, 0}, {255, 255}, {256, 0}, {300, 44}, {1<<31 + 5, 5}, {1<<32 - 1, 255}} {
		if x := Conv(api.TypeChar, c.x); x != c.char {
			t.Errorf("Conv of a char: %d of %d, not %d", x, c.x, c.char)
		}
		kinds := []int{api.TypeVoid, api.TypeInt, api.TypeUint, api.TypeArray, api.TypeStruct, api.TypeRefArray, api.TypeRefStruct}
		for _, kind := range append(kinds, noKinds...) {
			if x := Conv(kind, c.x); x != c.x {
				t.Errorf("Conv of kind %d: %d of %d", kind, x, c.x)
			}
		}
	}
}

// Wo2: a uint on either side, and nothing else, makes a uint.
func TestCommon(t *testing.T) {
	kinds := append([]int{api.TypeVoid, api.TypeInt, api.TypeChar, api.TypeArray, api.TypeStruct, api.TypeRefArray, api.TypeRefStruct}, noKinds...)
	for _, a := range kinds {
		for _, b := range kinds {
			if k := Common(a, b); k != api.TypeInt {
				t.Errorf("Common(%d, %d) is %d", a, b, k)
			}
		}
		if k := Common(a, api.TypeUint); k != api.TypeUint {
			t.Errorf("Common(%d, uint) is %d", a, k)
		}
		if k := Common(api.TypeUint, a); k != api.TypeUint {
			t.Errorf("Common(uint, %d) is %d", a, k)
		}
	}
	if k := Common(api.TypeUint, api.TypeUint); k != api.TypeUint {
		t.Errorf("Common(uint, uint) is %d", k)
	}
}

// Wo2: what is said of each operation, and of those that are none.
func TestOperations(t *testing.T) {
	type said struct {
		unsigned        int
		commutes, traps bool
	}
	rows := map[int]said{
		api.AluAdd:  {api.AluAdd, true, false},
		api.AluSub:  {api.AluSub, false, false},
		api.AluMul:  {api.AluMul, true, false},
		api.AluDiv:  {api.AluDivU, false, true},
		api.AluDivU: {api.AluDivU, false, true},
		api.AluRem:  {api.AluRemU, false, true},
		api.AluRemU: {api.AluRemU, false, true},
		api.AluAnd:  {api.AluAnd, true, false},
		api.AluOr:   {api.AluOr, true, false},
		api.AluXor:  {api.AluXor, true, false},
		api.AluShl:  {api.AluShl, false, false},
		api.AluShr:  {api.AluShr, false, false},
		api.AluSar:  {api.AluShr, false, false},
		api.AluEq:   {api.AluEq, true, false},
		api.AluNe:   {api.AluNe, true, false},
		api.AluLt:   {api.AluLtU, false, false},
		api.AluLtU:  {api.AluLtU, false, false},
		api.AluLe:   {api.AluLeU, false, false},
		api.AluLeU:  {api.AluLeU, false, false},
	}
	for _, op := range noOps {
		rows[op] = said{op, false, false}
	}
	for op, want := range rows {
		if got := (said{Unsigned(op), Commutes(op), Traps(op)}); got != want {
			t.Errorf("of op %d it is said %v, not %v", op, got, want)
		}
	}
}

func amount(x uint32) int64 {
	v := int64(int32(x))
	return max(v, -v)
}

// Wo3: quotient times b and the rest together are a, and the rest is below b.
func TestQuotientAndRest(t *testing.T) {
	for _, a := range edges {
		for _, b := range edges {
			if b == 0 {
				continue
			}
			q, _ := Alu(api.AluDiv, a, b)
			r, _ := Alu(api.AluRem, a, b)
			if q*b+r != a || amount(r) >= amount(b) || r != 0 && r>>31 != a>>31 {
				t.Errorf("%d by %d, with sign: %d, rest %d", a, b, q, r)
			}
			q, _ = Alu(api.AluDivU, a, b)
			r, _ = Alu(api.AluRemU, a, b)
			if q*b+r != a || r >= b {
				t.Errorf("%d by %d, without sign: %d, rest %d", a, b, q, r)
			}
		}
	}
}

// Wo3: of two words one is below, or they are the same.
func TestOneOfThree(t *testing.T) {
	for _, a := range edges {
		for _, b := range edges {
			same, _ := Alu(api.AluEq, a, b)
			for _, ops := range [][2]int{{api.AluLt, api.AluLe}, {api.AluLtU, api.AluLeU}} {
				below, _ := Alu(ops[0], a, b)
				above, _ := Alu(ops[0], b, a)
				most, _ := Alu(ops[1], a, b)
				if below+above+same != 1 || most != below+same {
					t.Errorf("%d and %d by op %d: %d %d %d %d", a, b, ops[0], below, above, same, most)
				}
			}
		}
	}
}

// Wo3: operations that commute tell the same both ways; any other tells otherwise somewhere.
func TestBothWays(t *testing.T) {
	for op := api.AluAdd; op <= api.AluLeU; op++ {
		differs := false
		for _, a := range edges {
			for _, b := range edges {
				x, p := Alu(op, a, b)
				y, q := Alu(op, b, a)
				differs = differs || x != y || p != q
			}
		}
		if differs == Commutes(op) {
			t.Errorf("op %d: it differs: %v, but it commutes: %v", op, differs, Commutes(op))
		}
	}
}

// Wo3: just the operations that Traps names are ever trapped.
func TestTrapsIsTrue(t *testing.T) {
	for op := api.AluAdd; op <= api.AluLeU; op++ {
		trapped := false
		for _, a := range edges {
			for _, b := range edges {
				_, kind := Alu(op, a, b)
				trapped = trapped || kind != api.TrapNone
			}
		}
		if trapped != Traps(op) {
			t.Errorf("op %d is trapped: %v, but Traps says %v", op, trapped, Traps(op))
		}
	}
}

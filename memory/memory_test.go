package memory

import (
	"math"
	"strings"
	"testing"

	"crucible/api"
)

// The sizes around which the last word, and the limits, turn.
var sizes = []int{1, 2, 3, 4, 5, 6, 7, 8, 9, 10, 11, 12, 13, 16, 255, 256, 257, 1<<16 - 1, 1 << 16, 1<<18 - 3, 1<<18 - 1, 1 << 18}

var noSizes = []int{math.MinInt, -1 << 32, -1<<32 + 16, -1 << 18, -4, -1, 0, 1<<18 + 1, 1<<18 + 4, 1 << 19, 1<<31 - 1, 1 << 31, 1 << 32, 1<<32 + 16, math.MaxInt}

// Words whose bytes all differ, and the edges of the bytes.
var someWords = []uint32{0, 1, 0x7F, 0x80, 0xFF, 0x100, 0x1FF, 0xFFAA, 0x01020304, 0xF1E2D3C4, 0x80000000, 0x7FFFFFFF, 0xFFFFFFFF}

func made(t *testing.T, size int) *Mem {
	t.Helper()
	m, err := New(size)
	if err != api.OK || m == nil {
		t.Fatalf("New(%d): %v, %d", size, m, err)
	}
	return m
}

// pattern is bytes that tell their places apart, none of them 0.
func pattern(n int) string {
	b := make([]byte, n)
	for i := range b {
		b[i] = byte(1 + (i*7+i/255)%255)
	}
	return string(b)
}

// filled is a memory of a pattern, and the pattern.
func filled(t *testing.T, size int) (*Mem, string) {
	t.Helper()
	m := made(t, size)
	p := pattern(size)
	if err := m.Fill(0, p); err != api.OK {
		t.Fatalf("Fill of a whole memory of %d bytes: %d", size, err)
	}
	holds(t, m, p)
	return m, p
}

// holds fails unless the memory's bytes are these, asked all at once.
func holds(t *testing.T, m *Mem, want string) {
	t.Helper()
	if m.Size() != len(want) {
		t.Fatalf("Size: %d, not %d", m.Size(), len(want))
	}
	got, err := m.Bytes(0, len(want))
	if err != api.OK {
		t.Fatalf("Bytes(0, %d): %d", len(want), err)
	}
	if got == want {
		return
	}
	for i := range want {
		if i >= len(got) || got[i] != want[i] {
			t.Fatalf("of %d bytes (%d are told) the one at %d is not %d", len(want), len(got), i, want[i])
		}
	}
	t.Fatalf("%d bytes are told, not %d", len(got), len(want))
}

// over is a text with another laid over it.
func over(text string, at int, s string) string {
	return text[:at] + s + text[at+len(s):]
}

// fourBytes is a word's bytes, written apart from the package's own.
func fourBytes(x uint32) string {
	var b []byte
	for range 4 {
		b = append(b, byte(x%256))
		x /= 256
	}
	return string(b)
}

// places is every place near the beginning and the end, and places far beyond.
func places(size int) []uint32 {
	list := []uint32{
		1 << 19, 1 << 24, 1<<31 - 4, 1<<31 - 1, 1 << 31, 1<<31 + 4, 1<<32 - 1<<18,
		1<<32 - 8, 1<<32 - 7, 1<<32 - 6, 1<<32 - 5, 1<<32 - 4, 1<<32 - 3, 1<<32 - 2, 1<<32 - 1,
	}
	for i := range min(size+9, 24) {
		list = append(list, uint32(i))
	}
	for i := max(0, size-9); i < size+9; i++ {
		list = append(list, uint32(i))
	}
	return list
}

func TestNewSize(t *testing.T) {
	for _, size := range sizes {
		m := made(t, size)
		holds(t, m, strings.Repeat("\x00", size))
		if x, err := m.Load1(uint32(size) - 1); x != 0 || err != api.OK {
			t.Errorf("size %d: the last byte: %d, %d", size, x, err)
		}
	}
	for size := 1; size <= 1<<18; size += 1021 {
		if m := made(t, size); m.Size() != size {
			t.Errorf("Size: %d, not %d", m.Size(), size)
		}
	}
}

func TestNewRefuses(t *testing.T) {
	for _, size := range noSizes {
		if m, err := New(size); m != nil || err != api.ErrArg {
			t.Errorf("New(%d): %v, %d, not none and ErrArg", size, m, err)
		}
	}
}

func TestWords(t *testing.T) {
	for _, size := range sizes {
		for _, at := range places(size) {
			m, p := filled(t, size)
			there := at%4 == 0 && int64(at)+4 <= int64(size)
			got, err := m.Load4(at)
			if !there {
				if got != 0 || err != api.ErrArg {
					t.Errorf("size %d: Load4(%d): %d, %d, not 0 and ErrArg", size, at, got, err)
				}
				if err := m.Store4(at, 0xA1B2C3D4); err != api.ErrArg {
					t.Errorf("size %d: Store4(%d): %d, not ErrArg", size, at, err)
				}
				holds(t, m, p)
				continue
			}
			if err != api.OK || fourBytes(got) != p[at:at+4] {
				t.Errorf("size %d: Load4(%d): %x, %d", size, at, got, err)
			}
			for _, x := range someWords {
				if err := m.Store4(at, x); err != api.OK {
					t.Errorf("size %d: Store4(%d, %x): %d", size, at, x, err)
				}
				if got, err := m.Load4(at); got != x || err != api.OK {
					t.Errorf("size %d: Load4(%d): %x, %d, not %x", size, at, got, err, x)
				}
			}
			holds(t, m, over(p, int(at), fourBytes(someWords[len(someWords)-1])))
		}
	}
}

func TestSingleBytes(t *testing.T) {
	for _, size := range sizes {
		for _, at := range places(size) {
			m, p := filled(t, size)
			got, err := m.Load1(at)
			if int64(at) >= int64(size) {
				if got != 0 || err != api.ErrArg {
					t.Errorf("size %d: Load1(%d): %d, %d, not 0 and ErrArg", size, at, got, err)
				}
				if err := m.Store1(at, 0xA1B2C3D4); err != api.ErrArg {
					t.Errorf("size %d: Store1(%d): %d, not ErrArg", size, at, err)
				}
				holds(t, m, p)
				continue
			}
			if err != api.OK || got != uint32(p[at]) {
				t.Errorf("size %d: Load1(%d): %d, %d, not %d", size, at, got, err, p[at])
			}
			for _, x := range someWords {
				if err := m.Store1(at, x); err != api.OK {
					t.Errorf("size %d: Store1(%d, %x): %d", size, at, x, err)
				}
				if got, err := m.Load1(at); got != x%256 || err != api.OK {
					t.Errorf("size %d: Load1(%d): %x, %d, not the lowest byte of %x", size, at, got, err, x)
				}
			}
			holds(t, m, over(p, int(at), "\xFF"))
		}
	}
}

func TestFill(t *testing.T) {
	texts := []string{"", "\x00", "A", "AB", "\xFF\x00\x80", "ABCD", "ABCDE", "\u00e9\u4e16", strings.Repeat("long ", 60)}
	for _, size := range sizes {
		for _, at := range places(size) {
			for _, s := range texts {
				m, p := filled(t, size)
				err := m.Fill(at, s)
				if int64(at)+int64(len(s)) > int64(size) {
					if err != api.ErrArg {
						t.Errorf("size %d: Fill(%d, %d bytes): %d, not ErrArg", size, at, len(s), err)
					}
					holds(t, m, p)
					continue
				}
				if err != api.OK {
					t.Errorf("size %d: Fill(%d, %d bytes): %d", size, at, len(s), err)
				}
				holds(t, m, over(p, int(at), s))
			}
		}
	}
}

func TestFillTooLong(t *testing.T) {
	for _, size := range sizes {
		m, p := filled(t, size)
		for _, n := range []int{size + 1, size + 4, 1<<18 + 1, 1 << 19} {
			if err := m.Fill(0, strings.Repeat("x", n)); err != api.ErrArg {
				t.Errorf("size %d: Fill(0, %d bytes): %d, not ErrArg", size, n, err)
			}
		}
		// Place and length that together wrap round to a place that is there.
		if err := m.Fill(math.MaxUint32-uint32(size)+1, strings.Repeat("x", size)); err != api.ErrArg {
			t.Errorf("size %d: Fill across 2^32: %d, not ErrArg", size, err)
		}
		holds(t, m, p)
	}
}

func TestBytes(t *testing.T) {
	for _, size := range sizes {
		m, p := filled(t, size)
		counts := []int{0, 1, 2, 3, 4, 5, 7, 8, size - 1, size, size + 1, 1 << 18, 1 << 19, 1<<31 - 1, 1 << 31, 1<<32 - 1, 1 << 32, 1<<32 + 1, math.MaxInt - 1, math.MaxInt}
		for _, at := range places(size) {
			for _, n := range counts {
				got, err := m.Bytes(at, n)
				if int64(at) > int64(size) || int64(n) > int64(size)-int64(at) {
					if got != "" || err != api.ErrArg {
						t.Errorf("size %d: Bytes(%d, %d): %q, %d, not none and ErrArg", size, at, n, got, err)
					}
				} else if err != api.OK || got != p[at:int(at)+n] {
					t.Errorf("size %d: Bytes(%d, %d): %d bytes, %d", size, at, n, len(got), err)
				}
			}
			for _, n := range []int{math.MinInt, -1 << 32, -1<<32 + 1, -1 << 31, -size, -4, -1, -int(at)} {
				if n == 0 {
					continue
				}
				if got, err := m.Bytes(at, n); got != "" || err != api.ErrArg {
					t.Errorf("size %d: Bytes(%d, %d): %q, %d, not none and ErrArg", size, at, n, got, err)
				}
			}
		}
		holds(t, m, p)
	}
}

// What Bytes told stays as it was told, whatever is stored behind it.
func TestBytesIsKept(t *testing.T) {
	m, p := filled(t, 16)
	told, _ := m.Bytes(0, 16)
	part, _ := m.Bytes(3, 6)
	m.Store4(0, 0xFFFFFFFF)
	m.Store1(5, 0)
	m.Fill(6, "overlaid")
	if told != p || part != p[3:9] {
		t.Errorf("what was told became %q, %q", told, part)
	}
}

// Two memories have no byte together.
func TestApart(t *testing.T) {
	a, p := filled(t, 12)
	b := made(t, 12)
	b.Store4(0, 0xFFFFFFFF)
	b.Store1(5, 0xFF)
	b.Fill(8, "over")
	holds(t, a, p)
	holds(t, b, "\xFF\xFF\xFF\xFF\x00\xFF\x00\x00over")
}

func TestExample(t *testing.T) {
	m := made(t, 12)
	if err := m.Store4(4, 0x01020304); err != api.OK {
		t.Errorf("Store4: %d", err)
	}
	for i, want := range []uint32{0, 0, 0, 0, 4, 3, 2, 1, 0, 0, 0, 0} {
		if got, err := m.Load1(uint32(i)); got != want || err != api.OK {
			t.Errorf("Load1(%d): %d, %d, not %d", i, got, err, want)
		}
	}
	if got, err := m.Load4(2); got != 0 || err != api.ErrArg {
		t.Errorf("Load4(2): %d, %d, not ErrArg", got, err)
	}
}

// A row of calls of all kinds is held, step by step, against a plain text that is laid over.
func TestRows(t *testing.T) {
	for _, size := range []int{1, 2, 3, 4, 5, 7, 8, 13, 30} {
		m := made(t, size)
		model := strings.Repeat("\x00", size)
		seed := uint32(size)
		next := func(n int) int {
			seed = seed*1664525 + 1013904223
			return int(seed>>8) % n
		}
		for range 3000 {
			model = step(t, m, model, next)
			holds(t, m, model)
			at := next(size + 3)
			got, err := m.Load4(uint32(at))
			if at%4 == 0 && at+4 <= size {
				if err != api.OK || fourBytes(got) != model[at:at+4] {
					t.Fatalf("size %d: Load4(%d): %x, %d, not %q", size, at, got, err, model[at:at+4])
				}
			} else if got != 0 || err != api.ErrArg {
				t.Fatalf("size %d: Load4(%d): %x, %d, not ErrArg", size, at, got, err)
			}
		}
	}
}

// step does one thing with a memory, and answers what its bytes must be behind it.
func step(t *testing.T, m *Mem, model string, next func(int) int) string {
	t.Helper()
	at, x := next(len(model)+3), uint32(next(1<<16))<<16|uint32(next(1<<16))
	var s string
	var err api.Errno
	even := true
	switch next(3) {
	case 0:
		s = fourBytes(x)
		even = at%4 == 0
		err = m.Store4(uint32(at), x)
	case 1:
		s = fourBytes(x)[:1]
		err = m.Store1(uint32(at), x)
	case 2:
		s = strings.Repeat(fourBytes(x), 3)[:next(12)]
		err = m.Fill(uint32(at), s)
	}
	if !even || at+len(s) > len(model) {
		if err != api.ErrArg {
			t.Fatalf("%d bytes laid at %d of %d: %d, not ErrArg", len(s), at, len(model), err)
		}
		return model
	}
	if err != api.OK {
		t.Fatalf("%d bytes laid at %d of %d: %d", len(s), at, len(model), err)
	}
	return over(model, at, s)
}

func TestNotGiven(t *testing.T) {
	refused, _ := New(0)
	for name, m := range map[string]*Mem{"nil": nil, "zero": {}, "new": new(Mem), "refused": refused} {
		for _, at := range []uint32{0, 1, 4, 1 << 18, 1<<32 - 4, 1<<32 - 1} {
			if x, err := m.Load4(at); x != 0 || err != api.ErrArg {
				t.Errorf("%s: Load4(%d): %d, %d", name, at, x, err)
			}
			if x, err := m.Load1(at); x != 0 || err != api.ErrArg {
				t.Errorf("%s: Load1(%d): %d, %d", name, at, x, err)
			}
			if m.Store4(at, 1) != api.ErrArg || m.Store1(at, 1) != api.ErrArg {
				t.Errorf("%s: a store at %d is not refused", name, at)
			}
			if m.Fill(at, "") != api.ErrArg || m.Fill(at, "a") != api.ErrArg {
				t.Errorf("%s: Fill at %d is not refused", name, at)
			}
			for _, n := range []int{math.MinInt, -1, 0, 1, math.MaxInt} {
				if s, err := m.Bytes(at, n); s != "" || err != api.ErrArg {
					t.Errorf("%s: Bytes(%d, %d): %q, %d", name, at, n, s, err)
				}
			}
		}
		if n := m.Size(); n != 0 {
			t.Errorf("%s: Size: %d", name, n)
		}
	}
}

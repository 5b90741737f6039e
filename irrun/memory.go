package irrun

import "crucible/api"

// memory is the globals and the stack.
type memory struct {
	globals []byte
	stack   []byte // what ends at StackTop; more of it than was ever used is not kept, as most runs use little
	low     int    // where the innermost call's slots begin: what is below may not be used
}

func laidOut(p api.Program) memory {
	m := memory{globals: make([]byte, p.Global), low: api.StackTop}
	for _, d := range p.Data {
		copy(m.globals[d.At:], d.Bytes)
	}
	return m
}

// push makes room for a call's slots; false: there is not so much.
func (m *memory) push(size int) bool {
	if m.low-size < api.StackLow {
		return false
	}
	m.low -= size
	m.reach(api.StackTop - m.low)
	// A call that has ended may have left something here.
	clear(m.bytesOfStack(m.low, m.low+size))
	return true
}

func (m *memory) pop(size int) { m.low += size }

// reach has at least so many bytes of the stack kept.
func (m *memory) reach(size int) {
	if size <= len(m.stack) {
		return
	}
	larger := make([]byte, max(size, 2*len(m.stack)))
	copy(larger[len(larger)-len(m.stack):], m.stack)
	m.stack = larger
}

func (m *memory) bytesOfStack(first, end int) []byte {
	begin := api.StackTop - len(m.stack)
	return m.stack[first-begin : end-begin]
}

// at is the bytes from an address on; nil: some of them may not be used.
func (m *memory) at(address uint32, wide int) []byte {
	first, end := int(address), int(address)+wide
	if first >= m.low && end <= api.StackTop {
		return m.bytesOfStack(first, end)
	}
	if first >= api.GlobalBase && end <= api.GlobalBase+len(m.globals) {
		return m.globals[first-api.GlobalBase : end-api.GlobalBase]
	}
	return nil
}

// wordOf is what bytes say, the lowest first.
func wordOf(l []byte) uint32 {
	w := uint32(0)
	for i, b := range l {
		w |= uint32(b) << (8 * i)
	}
	return w
}

// layWord lays as many bytes of a word as there is room for, the lowest first.
func layWord(l []byte, w uint32) {
	for i := range l {
		l[i] = byte(w >> (8 * i))
	}
}

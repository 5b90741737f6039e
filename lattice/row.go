package lattice

import "math/bits"

// none stands where no number is.
const none = -1

// wordBits is how many numbers a row has in one word.
const wordBits = 64

// row is numbers from 0 on, a bit each.
type row []uint64

// rowFor is one that has no number, with room for those below n.
func rowFor(n int) row { return make(row, (n+wordBits-1)/wordBits) }

func bit(n int) uint64 { return 1 << (n % wordBits) }

func (r row) has(n int) bool { return n/wordBits < len(r) && r[n/wordBits]&bit(n) != 0 }

func (r row) add(n int) { r[n/wordBits] |= bit(n) }

func (r row) remove(n int) { r[n/wordBits] &^= bit(n) }

// next is the least number that it has from n on, or none.
func (r row) next(n int) int {
	i := n / wordBits
	if i >= len(r) {
		return none
	}
	word := r[i] &^ (bit(n) - 1)
	for word == 0 {
		i++
		if i == len(r) {
			return none
		}
		word = r[i]
	}
	return i*wordBits + bits.TrailingZeros64(word)
}

// trimmed is it without the words of 0 at its end.
func (r row) trimmed() row {
	n := len(r)
	for n > 0 && r[n-1] == 0 {
		n--
	}
	return r[:n]
}

package sweep

import "math/bits"

const wordBits = 64

// marks is a set of numbers from 0 on, a bit for each.
type marks []uint64

// unmarked is a set without a number, with room for those below high.
func unmarked(high int) marks {
	return make(marks, (high+wordBits-1)/wordBits)
}

// put is for numbers that there is room for.
func (m marks) put(i int) {
	m[i/wordBits] |= 1 << (i % wordBits)
}

// take clears a number's bit; it tells whether it was set. Any int may be
// asked for: who leads somewhere may name numbers of no slot.
func (m marks) take(i int) bool {
	if i < 0 || i/wordBits >= len(m) {
		return false
	}
	k, bit := i/wordBits, uint64(1)<<(i%wordBits)
	had := m[k]&bit != 0
	m[k] &^= bit
	return had
}

// numbers is the set as a new list, rising.
func (m marks) numbers() []int {
	var list []int
	for k, word := range m {
		for word != 0 {
			list = append(list, k*wordBits+bits.TrailingZeros64(word))
			word &= word - 1 // the lowest bit that is set is cleared
		}
	}
	return list
}

package whole

import (
	"cmp"
	"math/bits"
	"slices"

	"lexicon/api"
)

// Sizes are rows of words, the lowest first. Unless said otherwise the rows
// that these functions are given are trimmed and left as they are, and the
// rows that they answer are new memory.

const (
	wordBits = 32
	wordMask = 1<<wordBits - 1
)

// trim is the words without the noughts at their end, in the same memory.
func trim(words []uint32) []uint32 {
	n := len(words)
	for n > 0 && words[n-1] == 0 {
		n--
	}
	return words[:n]
}

// isLong tells whether trimmed words are more than an Int may have.
func isLong(words []uint32) bool {
	return len(words) > api.MaxLimbs
}

// compareWords is -1, 0 or 1, as x is less than y, is y, or is more.
func compareWords(x, y []uint32) int {
	if len(x) != len(y) {
		return cmp.Compare(len(x), len(y))
	}
	for i, w := range slices.Backward(x) {
		if w != y[i] {
			return cmp.Compare(w, y[i])
		}
	}
	return 0
}

// addWords is x + y.
func addWords(x, y []uint32) []uint32 {
	if len(x) < len(y) {
		x, y = y, x
	}
	sum := make([]uint32, len(x)+1)
	copy(sum, x)
	sum[len(x)] = addInto(sum[:len(x)], y)
	return trim(sum)
}

// addInto adds y to x, which is as long or longer, and answers the carry.
func addInto(x, y []uint32) uint32 {
	var carry uint32
	for i := range x {
		if i >= len(y) && carry == 0 {
			break
		}
		var w uint32
		if i < len(y) {
			w = y[i]
		}
		part := x[i] + w
		total := part + carry
		// A sum that wraps round is below what was added; only one of the two can.
		if part < w || total < part {
			carry = 1
		} else {
			carry = 0
		}
		x[i] = total
	}
	return carry
}

// subWords is x - y; x is y or more.
func subWords(x, y []uint32) []uint32 {
	left := slices.Clone(x)
	var borrow uint32
	for i := range left {
		if i >= len(y) && borrow == 0 {
			break
		}
		var w uint32
		if i < len(y) {
			w = y[i]
		}
		part := left[i] - w
		total := part - borrow
		// A difference that wraps round is above what it was taken from.
		if part > left[i] || total > part {
			borrow = 1
		} else {
			borrow = 0
		}
		left[i] = total
	}
	return trim(left)
}

// mulWords is x times y.
func mulWords(x, y []uint32) []uint32 {
	product := make([]uint32, len(x)+len(y))
	for i, v := range x {
		var carry uint64
		for j, w := range y {
			// At most (2^32-1)^2 + 2(2^32-1), which is 2^64-1: it never wraps.
			part := uint64(v)*uint64(w) + uint64(product[i+j]) + carry
			product[i+j] = uint32(part)
			carry = part >> wordBits
		}
		product[i+len(y)] = uint32(carry)
	}
	return trim(product)
}

// mulAdd makes words times by plus more of words, in their own memory as far
// as it goes. Both numbers are below 2^32.
func mulAdd(words []uint32, by, more uint64) []uint32 {
	carry := more
	for i, w := range words {
		part := uint64(w)*by + carry
		words[i] = uint32(part)
		carry = part >> wordBits
	}
	if carry > 0 {
		words = append(words, uint32(carry))
	}
	return words
}

// divideWords is how often y, which is not 0, goes into x, and what is left.
func divideWords(x, y []uint32) (times, left []uint32) {
	switch {
	case compareWords(x, y) < 0:
		return nil, slices.Clone(x)
	case len(y) == 1:
		times = slices.Clone(x)
		rest := divideBy(times, uint64(y[0]))
		return trim(times), trim([]uint32{rest})
	}
	return divideLong(x, y)
}

// divideBy makes words by a number from 1 to 2^32-1 of words, in place, and
// answers what is left.
func divideBy(words []uint32, by uint64) uint32 {
	var left uint64
	for i, w := range slices.Backward(words) {
		part := left<<wordBits | uint64(w)
		words[i] = uint32(part / by)
		left = part % by
	}
	return uint32(left)
}

// divideLong is divideWords where y has two words or more and x no fewer: word
// by word, as on paper. Both are shifted up till y's highest bit is set, since
// then a word guessed from the highest words is too great by two at the most.
func divideLong(x, y []uint32) (times, left []uint32) {
	shift := bits.LeadingZeros32(y[len(y)-1])
	u := shiftUp(x, shift)
	v := shiftUp(y, shift)[:len(y)]
	times = make([]uint32, len(x)-len(y)+1)
	for i := range slices.Backward(times) {
		part := u[i : i+len(v)+1]
		guess := guessWord(part, v)
		if takeTimes(part, v, guess) {
			guess--
			// The carry meets what was borrowed: the highest word wraps back to 0.
			part[len(v)] += addInto(part[:len(v)], v)
		}
		times[i] = uint32(guess)
	}
	return trim(times), trim(shiftDown(u[:len(v)], shift))
}

// guessWord is how often v goes into part, or one more: told from the highest
// three words of part and two of v.
func guessWord(part, v []uint32) uint64 {
	n := len(v)
	high, next := uint64(v[n-1]), uint64(v[n-2])
	top := uint64(part[n])<<wordBits | uint64(part[n-1])
	guess, left := top/high, top%high
	for guess > wordMask || guess*next > left<<wordBits|uint64(part[n-2]) {
		guess--
		left += high
		if left > wordMask {
			break
		}
	}
	return guess
}

// takeTimes takes v, so many times, from part, which has a word more, and
// tells whether that was too much: then part has wrapped round.
func takeTimes(part, v []uint32, times uint64) bool {
	var carry, borrow uint64
	for i, w := range v {
		product := times*uint64(w) + carry
		carry = product >> wordBits
		rest := uint64(part[i]) - product&wordMask - borrow
		part[i] = uint32(rest)
		borrow = rest >> 63
	}
	rest := uint64(part[len(v)]) - carry - borrow
	part[len(v)] = uint32(rest)
	return rest>>63 == 1
}

// shiftUp is words times 2^shift, shift below 32, with one word more than words.
func shiftUp(words []uint32, shift int) []uint32 {
	out := make([]uint32, len(words)+1)
	for i, w := range words {
		wide := uint64(w) << shift
		out[i] |= uint32(wide)
		out[i+1] = uint32(wide >> wordBits)
	}
	return out
}

// shiftDown is words by 2^shift, shift below 32; what is shifted out was 0.
func shiftDown(words []uint32, shift int) []uint32 {
	out := make([]uint32, len(words))
	var above uint64
	for i, w := range slices.Backward(words) {
		wide := above<<wordBits | uint64(w)
		out[i] = uint32(wide >> shift)
		above = uint64(w)
	}
	return out
}

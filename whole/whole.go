// Package whole is whole numbers of any size: see DOC.md, chapter 1.
//
// An Int that is handed in need not be in its form (no word 0 at the end, no
// Neg 0): every call trims what it reads, and answers by formed alone.
package whole

import (
	"cmp"
	"math/bits"
	"slices"

	"lexicon/api"
)

// maxModulus is the greatest number that Rest divides by.
const maxModulus = 1 << 62

// Of is an int as an Int.
func Of(v int) api.Int {
	size := uint64(v)
	if v < 0 {
		size = -size // wraps round: right for the lowest int, too
	}
	return formed(v < 0, []uint32{uint32(size), uint32(size >> wordBits)})
}

// Small is an Int as an int, if it is one.
func Small(x api.Int) (int, bool) {
	words := trim(x.Mag)
	if len(words) > 2 {
		return 0, false
	}
	var size uint64
	for i, w := range words {
		size |= uint64(w) << (wordBits * i)
	}
	const low = 1 << 63 // the size of the lowest int
	switch {
	case x.Neg && size <= low:
		return int(-size), true
	case !x.Neg && size < low:
		return int(size), true
	}
	return 0, false
}

// Compare is -1, 0 or 1, as a is below b, is b, or is above.
func Compare(a, b api.Int) int {
	s, t := sign(a), sign(b)
	if s != t {
		return cmp.Compare(s, t)
	}
	return s * compareWords(trim(a.Mag), trim(b.Mag))
}

// Negate is -a.
func Negate(a api.Int) api.Int {
	return formed(!a.Neg, slices.Clone(trim(a.Mag)))
}

// Add is a + b.
func Add(a, b api.Int) (api.Int, api.Errno) {
	return sum(a, b, b.Neg)
}

// Sub is a - b.
func Sub(a, b api.Int) (api.Int, api.Errno) {
	return sum(a, b, !b.Neg)
}

// Mul is a times b.
func Mul(a, b api.Int) (api.Int, api.Errno) {
	x, y := trim(a.Mag), trim(b.Mag)
	if isLong(x) || isLong(y) {
		return api.Int{}, api.ErrBig
	}
	return checked(a.Neg != b.Neg, mulWords(x, y))
}

// Divide is how often b goes into a, rounded down, and what is left.
func Divide(a, b api.Int) (q, r api.Int, e api.Errno) {
	x, y := trim(a.Mag), trim(b.Mag)
	if isLong(x) || isLong(y) {
		e = api.ErrBig
		return
	}
	if len(y) == 0 {
		e = api.ErrZero
		return
	}
	times, left := divideWords(x, y)
	switch {
	case a.Neg == b.Neg:
		q = formed(false, times)
	case len(left) == 0:
		q = formed(true, times)
	default:
		// Rounding down below 0 takes b once more. The sum can't be long: b
		// leaves something, so its size is 2 or more, and times at most half.
		q = formed(true, addWords(times, []uint32{1}))
		left = subWords(y, left)
	}
	r = formed(b.Neg, left)
	return
}

// Rest is what is left of a by m.
func Rest(a api.Int, m int) (int, api.Errno) {
	if m < 1 || m > maxModulus {
		return 0, api.ErrArg
	}
	words := trim(a.Mag)
	by := uint64(m)
	var left uint64
	for _, w := range slices.Backward(words) {
		// left is below by, so its upper half is, as Div64 asks.
		_, left = bits.Div64(left>>wordBits, left<<wordBits|uint64(w), by)
	}
	if a.Neg && left > 0 {
		left = by - left
	}
	return int(left), api.OK
}

// sum is a and b's size together, the latter below 0 if bNeg.
func sum(a, b api.Int, bNeg bool) (api.Int, api.Errno) {
	x, y := trim(a.Mag), trim(b.Mag)
	if isLong(x) || isLong(y) {
		return api.Int{}, api.ErrBig
	}
	switch {
	case a.Neg == bNeg:
		return checked(a.Neg, addWords(x, y))
	case compareWords(x, y) < 0:
		return checked(bNeg, subWords(y, x))
	}
	return checked(a.Neg, subWords(x, y))
}

// sign is -1, 0 or 1, as a's value is below 0, is 0, or is above.
func sign(a api.Int) int {
	switch {
	case len(trim(a.Mag)) == 0:
		return 0
	case a.Neg:
		return -1
	}
	return 1
}

// formed is an Int in its form. It keeps the words: they are the caller's own.
func formed(neg bool, words []uint32) api.Int {
	words = trim(words)
	if len(words) == 0 {
		return api.Int{}
	}
	return api.Int{Neg: neg, Mag: words}
}

// checked is formed, or ErrBig where that would be long.
func checked(neg bool, words []uint32) (api.Int, api.Errno) {
	words = trim(words)
	if isLong(words) {
		return api.Int{}, api.ErrBig
	}
	return formed(neg, words), api.OK
}

package whole

import (
	"slices"

	"lexicon/api"
)

const (
	pieceDigits = 9
	pieceBase   = 1000000000 // 10^pieceDigits: the greatest power of 10 in a word

	// maxDigits is how many digits an Int that is not long has at most: its
	// bits times the logarithm of 2 (0.30103, rounded up), and one.
	maxDigits = api.MaxLimbs*wordBits*30103/100000 + 1
	maxPieces = (maxDigits + pieceDigits - 1) / pieceDigits
)

// pieces is decimal digits, nine in a piece, the lowest first: as many as an
// Int that is not long can have.
type pieces [maxPieces]uint32

// Parse reads decimal digits.
func Parse(s string) (api.Int, api.Errno) {
	digits, neg := s, false
	if len(s) > 0 && s[0] == '-' {
		digits, neg = s[1:], true
	}
	if !areDigits(digits) || neg && digits == "0" {
		return api.Int{}, api.ErrText
	}
	if len(digits) > maxDigits {
		return api.Int{}, api.ErrBig
	}
	row, n := split(digits)
	var words []uint32
	for _, p := range slices.Backward(row[:n]) {
		words = mulAdd(words, pieceBase, uint64(p))
	}
	return checked(neg, words)
}

// Text is an Int in decimal digits.
func Text(a api.Int) string {
	words := slices.Clone(trim(a.Mag))
	if len(words) == 0 {
		return "0"
	}
	var text []byte // the lowest digit first
	for len(words) > 0 {
		var row pieces
		n := 0
		for n < len(row) && len(words) > 0 {
			row[n] = divideBy(words, pieceBase)
			words = trim(words)
			n++
		}
		text = appendPieces(text, row[:n])
	}
	for text[len(text)-1] == '0' {
		text = text[:len(text)-1]
	}
	if a.Neg {
		text = append(text, '-')
	}
	slices.Reverse(text)
	return string(text)
}

// areDigits tells whether digits are a number that is not below 0, without
// noughts ahead.
func areDigits(digits string) bool {
	if digits == "" || digits[0] == '0' && len(digits) > 1 {
		return false
	}
	for i := range len(digits) {
		if digits[i] < '0' || digits[i] > '9' {
			return false
		}
	}
	return true
}

// split lays at most maxDigits digits into pieces, and tells into how many.
func split(digits string) (row pieces, n int) {
	for end := len(digits); end > 0; end -= pieceDigits {
		for i := max(0, end-pieceDigits); i < end; i++ {
			row[n] = row[n]*10 + uint32(digits[i]-'0')
		}
		n++
	}
	return row, n
}

// appendPieces appends nine digits a piece, the lowest first.
func appendPieces(text []byte, row []uint32) []byte {
	for _, p := range row {
		for range pieceDigits {
			text = append(text, byte('0'+p%10))
			p /= 10
		}
	}
	return text
}

package lexer

import "lexicon/api"

const longestSign = 3 // bytes

// signAt is the longest sign at the beginning of s, nothing if none stands
// there.
func signAt(s string) string {
	for n := min(longestSign, len(s)); n > 0; n-- {
		if isSign(s[:n]) {
			return s[:n]
		}
	}
	return ""
}

func isSign(s string) bool {
	switch s {
	case "(", ")", "[", "]", "{", "}", ",", ":", ".", "=", "==", "!=", "<",
		"<=", ">", ">=", "+", "+=", "-", "-=", "*", "*=", "**", "//", "//=",
		"%", "%=", "&", "&=", "|", "|=", "^", "^=":
		return true
	}
	return false
}

// isPart tells whether a byte may stand within a name.
func isPart(c int) bool {
	return 'a' <= c && c <= 'z' || 'A' <= c && c <= 'Z' || c == '_' || isDigit(c)
}

func isDigit(c int) bool {
	return '0' <= c && c <= '9'
}

// isNumber tells whether what begins with a digit is a number.
func isNumber(s string) bool {
	for i := range len(s) {
		if !isDigit(int(s[i])) {
			return false
		}
	}
	return len(s) <= api.MaxDigits && (s[0] != '0' || len(s) == 1)
}

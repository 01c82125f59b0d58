package letters

import (
	"strconv"
	"strings"
	"unicode/utf8"

	"lexicon/api"
)

const (
	hexDigits = "0123456789abcdef"

	blank  = 0x20 // the lowest rune that stands for itself in quotes
	rubout = 0x7f // the one above it that does not

	xDigits = 2 // behind \x
	uDigits = 4 // behind \u
)

// Quote is a text in quotes, as the language reads it.
func Quote(s string) string {
	var text strings.Builder
	text.Grow(len(s) + len("''"))
	text.WriteByte('\'')
	for _, r := range s {
		writeQuoted(&text, r)
	}
	text.WriteByte('\'')
	return text.String()
}

// Unquote is what a text in quotes says, and how many bytes of s it has.
func Unquote(s string) (string, int, api.Errno) {
	if s == "" || s[0] != '\'' && s[0] != '"' {
		return "", 0, api.ErrText
	}
	var said strings.Builder
	for at := 1; at < len(s); {
		if s[at] == s[0] {
			return said.String(), at + 1, api.OK
		}
		r, width := readQuoted(s[at:])
		if width == 0 {
			break
		}
		said.WriteRune(r)
		at += width
	}
	return "", 0, api.ErrText
}

// writeQuoted writes a rune as it stands within quotes. The quote and the
// backslash come last, so that they can fall through to standing themselves.
func writeQuoted(text *strings.Builder, r rune) {
	switch {
	case r == '\n':
		text.WriteString(`\n`)
	case r == '\t':
		text.WriteString(`\t`)
	case isControl(r):
		text.WriteString(`\x`)
		writeHex(text, r, xDigits)
	case isHidden(r):
		text.WriteString(`\u`)
		writeHex(text, r, uDigits)
	case r == '\'', r == '\\':
		text.WriteByte('\\')
		fallthrough
	default:
		text.WriteRune(r)
	}
}

// isControl tells whether a rune can't stand within quotes as it is.
func isControl(r rune) bool {
	return r < blank || r == rubout
}

// isHidden tells whether a rune may stand within quotes as it is, but is not
// to be seen there.
func isHidden(r rune) bool {
	switch r {
	case 0x2028, 0x2029, 0xfeff: // line and paragraph separator, byte order mark
		return true
	}
	return 0x80 <= r && r <= 0x9f
}

// writeHex writes the lowest digits of a rune's number.
func writeHex(text *strings.Builder, r rune, digits int) {
	for shift := 4 * (digits - 1); shift >= 0; shift -= 4 {
		text.WriteByte(hexDigits[r>>shift&0xf])
	}
}

// readQuoted reads the first rune that is said within quotes, and how many
// bytes of s say it: 0, if there is none that may stand there.
func readQuoted(s string) (rune, int) {
	r, width := utf8.DecodeRuneInString(s)
	switch {
	case r == utf8.RuneError && width < 2: // a bad byte; U+FFFD itself is wider
		return 0, 0
	case isControl(r):
		return 0, 0
	case r == '\\':
		return readEscape(s)
	}
	return r, width
}

// readEscape is readQuoted where s begins with a backslash.
func readEscape(s string) (rune, int) {
	const begun = 2 // the backslash and the byte that tells the kind
	if len(s) < begun {
		return 0, 0
	}
	digits, most := uDigits, rune(utf8.MaxRune)
	switch r := rune(s[1]); r {
	case '\\', '\'', '"':
		return r, begun
	case 'n':
		return '\n', begun
	case 't':
		return '\t', begun
	case 'x':
		digits, most = xDigits, utf8.RuneSelf-1
		fallthrough
	case 'u':
		number, ok := readHex(s[begun:], digits)
		if ok && number <= most && utf8.ValidRune(number) {
			return number, begun + digits
		}
	}
	return 0, 0
}

// readHex reads so many digits at the beginning of s.
func readHex(s string, digits int) (rune, bool) {
	if len(s) < digits {
		return 0, false
	}
	number, err := strconv.ParseUint(s[:digits], 16, 16)
	return rune(number), err == nil
}

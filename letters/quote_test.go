package letters_test

import (
	"fmt"
	"math/rand"
	"regexp"
	"strings"
	"testing"
	"unicode/utf8"

	"lexicon/api"
	"lexicon/letters"
)

// inQuotes is how the document's table says a rune, row by row.
func inQuotes(r rune) string {
	switch {
	case r == '\'' || r == '\\':
		return `\` + string(r)
	case r == 0xa:
		return `\n`
	case r == 0x9:
		return `\t`
	case r < 0x20 || r == 0x7f:
		return fmt.Sprintf(`\x%02x`, r)
	case r >= 0x80 && r <= 0x9f || r == 0x2028 || r == 0x2029 || r == 0xfeff:
		return fmt.Sprintf(`\u%04x`, r)
	}
	return string(r)
}

func TestP2_3Quote(t *testing.T) {
	rows := []struct{ s, want string }{
		{"", `''`},
		{"it's", `'it\'s'`},
		{`"\`, `'"\\'`},
		{`\n`, `'\\n'`},
		{"a b~", `'a b~'`},
		{"\n\t\r", `'\n\t\x0d'`},
		{"\x00\x1f \x7e\x7f", `'\x00\x1f ~\x7f'`},
		{"\u0080\u009f\u00a0", `'\u0080\u009f` + "\u00a0'"},
		{"\u2027\u2028\u2029\u202a", "'\u2027" + `\u2028\u2029` + "\u202a'"},
		{"\ufefe\ufeff\uff00", "'\ufefe" + `\ufeff` + "\uff00'"},
		{"\u00e9\U0001f600\U0010ffff", "'\u00e9\U0001f600\U0010ffff'"},
		{"\x001", `'\x001'`},
		{bad, "'" + bad + "'"},
		{"\xff", "'" + bad + "'"},
		{"a\xe2\x82'", "'a" + bad + bad + `\''`},
		{"\x9f", "'" + bad + "'"}, // a lone byte, not the rune 9F
	}
	for _, row := range rows {
		if got := letters.Quote(row.s); got != row.want {
			t.Errorf("Quote(%q): got %q, want %q", row.s, got, row.want)
		}
	}
}

func TestP2_3QuoteOfEachRune(t *testing.T) {
	for r := rune(0); r <= utf8.MaxRune; r++ {
		if !utf8.ValidRune(r) {
			continue
		}
		if got, want := letters.Quote(string(r)), "'"+inQuotes(r)+"'"; got != want {
			t.Errorf("Quote of %x: got %q, want %q", r, got, want)
		}
	}
}

// says checks what a quoted text says, and of how many bytes it is.
func says(t *testing.T, s, want string, n int) {
	t.Helper()
	if got, m, e := letters.Unquote(s); got != want || m != n || e != api.OK {
		t.Errorf("Unquote(%q): got %q, %d, error %d, want %q, %d", s, got, m, int(e), want, n)
	}
}

// saysNothing checks that a text is refused, with nothing beside the error.
func saysNothing(t *testing.T, s string) {
	t.Helper()
	if got, n, e := letters.Unquote(s); got != "" || n != 0 || e != api.ErrText {
		t.Errorf("Unquote(%q): got %q, %d, error %d, want ErrText", s, got, n, int(e))
	}
}

func TestP2_4Unquote(t *testing.T) {
	rows := []struct {
		s, want string
		behind  int
	}{
		{`''`, "", 0},
		{`""`, "", 0},
		{`'abc'`, "abc", 0},
		{`"abc"`, "abc", 0},
		{`'"'`, `"`, 0},
		{`"'"`, `'`, 0},
		{`'\''`, `'`, 0},
		{`"\""`, `"`, 0},
		{`'\"'`, `"`, 0},
		{`"\'"`, `'`, 0},
		{`'\\'`, `\`, 0},
		{`'\\''`, `\`, 1},
		{`'\\\''`, `\'`, 0},
		{`"\\\n\t\""`, "\\\n\t\"", 0},
		{`'\x00\x1F\x7f\x4a\x4A'`, "\x00\x1f\x7fJJ", 0},
		{`'\x411'`, "A1", 0},
		{`'\u0000\u00e9\u00E9\uFFfd\uffff'`, "\x00\u00e9\u00e9\ufffd\uffff", 0},
		{`'\u00410'`, "A0", 0},
		{`'\ud7ff\ue000'`, "\ud7ff\ue000", 0},
		{"'\u0080\u2028\ufeff\ufffd\U0010ffff'", "\u0080\u2028\ufeff\ufffd\U0010ffff", 0},
		{`' ~'`, " ~", 0},
		{`'a''b'`, "a", 3},
		{`'a'b`, "a", 1},
		{"'a'\xff\n\\", "a", 3},
		{`''''`, "", 2},
		{`"a"'`, "a", 1},
	}
	for _, row := range rows {
		says(t, row.s, row.want, len(row.s)-row.behind)
	}
}

func TestP2_4UnquoteIsRefused(t *testing.T) {
	for _, s := range []string{
		// another beginning
		``, `a`, `a'b'`, ` 'a'`, "`a`", `\'a'`, "\n'a'", "\xff", "\ufeff'a'", "\u2018a\u2019",
		// no end
		`'`, `"`, `'a`, `"a`, `'a"`, `"a'`, `'\'`, `"\"`, `'\\\'`, `'\`, `'a\`, `"\`, `'\n`, `'\x41`, `'\u0041`,
		// a byte that begins no rune
		"'\xff'", "'\x80'", "'a\xc3'", "'\xe2\x82'", "'\xed\xa0\x80'", "'\xc0\x80'", "'\xf4\x90\x80\x80'", "'\xff", "'\\\xff'", "'\\x4\xff'",
		// a rune below 20 or 7F
		"'\n'", "'\t'", "'\r'", "'\x00'", "'\x1f'", "'\x7f'", "\"a\n\"", "'a\nb'",
		// another thing behind a \
		`'\q'`, `'\a'`, `'\r'`, `'\0'`, `'\N'`, `'\T'`, `'\ '`, "'\\\n'", "'\\\u00e9'", "'\\\u00f1'",
		`'\X41'`, `'\U0041'`, `'\x'`, `'\x4'`, `'\xg0'`, `'\x4g'`, `'\x 4'`, `'\x+4'`, `'\x-4'`, `'\x4_'`, `'\x_4'`, `'\x0x41'`,
		`'\x80'`, `'\xff'`, `'\xFF'`, `'\u'`, `'\u1'`, `'\u12'`, `'\u123'`, `'\u00g0'`, `'\u{41}'`, `'\u+041'`, `'\u0_41'`, `'\u0x41'`,
		`'\ud800'`, `'\uD800'`, `'\udbff'`, `'\udc00'`, `'\udfff'`, `'\ud83d\ude00'`,
		`'\x`, `'\x4`, `'\u`, `'\u00e`,
	} {
		saysNothing(t, s)
	}
}

func TestP2_4EachNumberOfDigits(t *testing.T) {
	for n := range 0x100 {
		for _, s := range []string{fmt.Sprintf(`'\x%02x'`, n), fmt.Sprintf(`"\x%02X"`, n)} {
			if n < 0x80 {
				says(t, s, string(rune(n)), 6)
			} else {
				saysNothing(t, s)
			}
		}
	}
	for n := range 0x10000 {
		for _, s := range []string{fmt.Sprintf(`'\u%04x'`, n), fmt.Sprintf(`"\u%04X"`, n)} {
			if n < 0xd800 || n > 0xdfff {
				says(t, s, string(rune(n)), 8)
			} else {
				saysNothing(t, s)
			}
		}
	}
}

func TestP2_4EachRune(t *testing.T) {
	behind := map[rune]rune{'\\': '\\', '\'': '\'', '"': '"', 'n': 0xa, 't': 9}
	for r := rune(0); r <= utf8.MaxRune; r++ {
		if !utf8.ValidRune(r) {
			continue
		}
		plain, escaped := `"`+string(r)+`"`, `"\`+string(r)+`"`
		switch {
		case r == '"':
			says(t, plain, "", 2)
		case r < 0x20 || r == 0x7f || r == '\\':
			saysNothing(t, plain)
		default:
			says(t, plain, string(r), len(plain))
		}
		if said, ok := behind[r]; ok {
			says(t, escaped, string(said), len(escaped))
		} else {
			saysNothing(t, escaped)
		}
	}
}

// quotedOnce are texts in quotes, as a pattern; a bad byte matches as U+FFFD
// there, and must be looked for beside it.
func quotedOnce() *regexp.Regexp {
	const digit = `[0-9a-fA-F]`
	const escape = `\\[\\'"nt]|\\x[0-7]` + digit + `|\\u(?:[0-9abcefABCEF]` + digit + `{3}|[dD][0-7]` + digit + `{2})`
	one := `'(?:[^'\\\x00-\x1f\x7f]|` + escape + `)*'`
	two := `"(?:[^"\\\x00-\x1f\x7f]|` + escape + `)*"`
	return regexp.MustCompile(`^(?:` + one + `|` + two + `)`)
}

func TestP2_4AcceptsWhatThePatternDoes(t *testing.T) {
	pattern := quotedOnce()
	check := func(s string) {
		t.Helper()
		quoted := pattern.FindString(s)
		_, n, e := letters.Unquote(s)
		if quoted == "" || !utf8.ValidString(quoted) {
			saysNothing(t, s)
		} else if n != len(quoted) || e != api.OK {
			t.Errorf("Unquote(%q): got %d, error %d, want %d", s, n, int(e), len(quoted))
		}
	}
	some := []string{`'`, `"`, `\`, `x`, `u`, `n`, `q`, `4`, `d`, `8`, `F`, "\xff", "\u00e9", "\n", "\x7f"}
	var lay func(s string, more int)
	lay = func(s string, more int) {
		check(s)
		if more == 0 {
			return
		}
		for _, p := range some {
			lay(s+p, more-1)
		}
	}
	lay(`'`, 3)
	lay(`"\`, 3)
	some = append(some, `\\`, `\'`, `\"`, `\n`, `\x7e`, `\x41`, `\u00e9`, `\ud7FF`, "a", "b", "c", "0", "1")
	r := rand.New(rand.NewSource(24))
	for range 100000 {
		s := some[r.Intn(2)]
		for range r.Intn(12) {
			s += some[r.Intn(len(some))]
		}
		check(s)
	}
}

func TestP2_5UnquoteOfQuote(t *testing.T) {
	check := func(s string) {
		t.Helper()
		q := letters.Quote(s)
		says(t, q, string([]rune(s)), len(q)) // a good s itself, else U+FFFD for each bad byte
		says(t, q+s, string([]rune(s)), len(q))
	}
	for _, row := range texts {
		check(row.s)
	}
	for r := rune(0); r <= utf8.MaxRune; r++ {
		if utf8.ValidRune(r) {
			check(string(r))
		}
	}
	for b := range 0x100 {
		check(string([]byte{'a', byte(b), 'z'}))
	}
	check("a'b\"c\\d\n\t\x00\x7f\u0085\u2029\ufeff\U0010ffff\ufffd")
	check(strings.Repeat("\\'\n\xff", api.MaxText))
	r := rand.New(rand.NewSource(25))
	for range 20000 {
		check(randomText(r, true))
		check(randomText(r, false))
	}
}

func TestP2_5QuotesOfUnlikeTextsAreUnlike(t *testing.T) {
	of := map[string]string{}
	check := func(s string) {
		t.Helper()
		q := letters.Quote(s)
		if other, ok := of[q]; ok && other != s {
			t.Fatalf("Quote of %q and of %q: %q", s, other, q)
		}
		of[q] = s
	}
	for _, row := range texts {
		if row.good {
			check(row.s)
		}
	}
	some := []string{`\`, `'`, `"`, "n", "\n", "t", "\t", "x", "0", "a", "\x00", "\x0a", "u", "\u2028"}
	for _, a := range some {
		for _, b := range some {
			for _, c := range some {
				check(a + b + c)
				check(a + b)
			}
		}
	}
	check(`\x00`)
	check(`\u2028`)
	r := rand.New(rand.NewSource(28))
	for range 20000 {
		check(randomText(r, true))
	}
}

func TestExamplesOfQuotes(t *testing.T) {
	if got := letters.Quote("it's"); got != `'it\'s'` {
		t.Errorf("Quote: got %q", got)
	}
	if got := letters.Quote("\x0a\x00\xe2\x80\xa8"); got != `'\n\x00\u2028'` {
		t.Errorf("Quote: got %q", got)
	}
	says(t, `"a\x41\u00e9"zz`, "aA\u00e9", 13)
	for _, s := range []string{`'a`, `'\q'`, `'\x80'`, `'\ud800'`} {
		saysNothing(t, s)
	}
}

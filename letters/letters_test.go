package letters_test

import (
	"fmt"
	"math"
	"math/rand"
	"slices"
	"strings"
	"testing"
	"unicode/utf8"

	"lexicon/api"
	"lexicon/letters"
)

const bad = "\ufffd" // the piece of a byte that begins no rune

// texts are some texts, and their pieces as the document says them.
var texts = []struct {
	s      string
	pieces []string
	good   bool
}{
	{"", nil, true},
	{"a", []string{"a"}, true},
	{"\x00", []string{"\x00"}, true},
	{"a\u00f1", []string{"a", "\u00f1"}, true},
	{"\u00e9\u20ac\U0001f600z", []string{"\u00e9", "\u20ac", "\U0001f600", "z"}, true},
	{"e\u0301", []string{"e", "\u0301"}, true},
	{"\x7f\u0080\u07ff\u0800\uffff\U00010000\U0010ffff", []string{"\x7f", "\u0080", "\u07ff", "\u0800", "\uffff", "\U00010000", "\U0010ffff"}, true},
	{"\ud7ff\ue000", []string{"\ud7ff", "\ue000"}, true},
	{bad, []string{bad}, true},
	{"\ufeffa", []string{"\ufeff", "a"}, true},
	{"\xff", []string{bad}, false},
	{"\x80", []string{bad}, false},
	{"a\xc3", []string{"a", bad}, false},
	{"\xc3a", []string{bad, "a"}, false},
	{"\xe2\x82a", []string{bad, bad, "a"}, false},
	{"\xe2\x82\xac\x82", []string{"\u20ac", bad}, false},
	{"\xc0\x80", []string{bad, bad}, false},                   // 0 in two bytes
	{"\xed\xa0\x80", []string{bad, bad, bad}, false},          // D800
	{"\xf4\x90\x80\x80", []string{bad, bad, bad, bad}, false}, // 110000
	{"b\xff\u00e9", []string{"b", bad, "\u00e9"}, false},
	{bad + "\xff" + bad, []string{bad, bad, bad}, false},
}

// randomText is a text of whole runes and lone bytes, or of whole runes alone.
func randomText(r *rand.Rand, good bool) string {
	some := []string{"a", "'", "\"", "\\", "\n", "\t", "\r", "\x00", "\x1f", "\x7f", "\u0080", "\u009f", "\u00e9", "\u2028", "\u2029", "\ufeff", bad, "\U0001f600", "x", "u", "41"}
	lone := []string{"\xff", "\x80", "\xc3", "\xe2\x82", "\xf0\x9f\x98", "\xed\xa0\x80"}
	if !good {
		some = append(some, lone...)
	}
	var s strings.Builder
	for range r.Intn(9) {
		s.WriteString(some[r.Intn(len(some))])
	}
	return s.String()
}

// pieces is what All goes through; its numbers must be 0 and on.
func pieces(t *testing.T, s string) []string {
	t.Helper()
	var got []string
	for i, p := range letters.All(s) {
		if i != len(got) {
			t.Errorf("All(%q): number %d, want %d", s, i, len(got))
		}
		got = append(got, p)
	}
	return got
}

func TestP2_1Good(t *testing.T) {
	for _, row := range texts {
		if got := letters.Good(row.s); got != row.good {
			t.Errorf("Good(%q): got %v", row.s, got)
		}
	}
}

func TestP2_1Len(t *testing.T) {
	for _, row := range texts {
		if got := letters.Len(row.s); got != len(row.pieces) {
			t.Errorf("Len(%q): got %d, want %d", row.s, got, len(row.pieces))
		}
	}
	if got := letters.Len(strings.Repeat("\u00e9\xff", api.MaxText)); got != 2*api.MaxText {
		t.Errorf("Len of a text above MaxText: got %d", got)
	}
}

func TestP2_1At(t *testing.T) {
	for _, row := range texts {
		for i, p := range row.pieces {
			if got, e := letters.At(row.s, i); got != p || e != api.OK {
				t.Errorf("At(%q, %d): got %q, error %d, want %q", row.s, i, got, int(e), p)
			}
		}
		n := len(row.pieces)
		for _, i := range []int{-1, -n, -n - 1, n, n + 1, len(row.s) + 1, math.MinInt, math.MaxInt} {
			if got, e := letters.At(row.s, i); got != "" || e != api.ErrIndex {
				t.Errorf("At(%q, %d): got %q, error %d, want ErrIndex", row.s, i, got, int(e))
			}
		}
	}
}

func TestP2_1All(t *testing.T) {
	for _, row := range texts {
		if got := pieces(t, row.s); !slices.Equal(got, row.pieces) {
			t.Errorf("All(%q): got %q, want %q", row.s, got, row.pieces)
		}
	}
}

func TestP2_1AllIsLeftAndBegunAgain(t *testing.T) {
	all := letters.All("a\xff\u00e9z")
	var got []string
	for i, p := range all {
		got = append(got, p)
		if i == 1 {
			break
		}
	}
	for _, p := range all {
		got = append(got, p)
	}
	if want := []string{"a", bad, "a", bad, "\u00e9", "z"}; !slices.Equal(got, want) {
		t.Errorf("All, left and begun again: got %q, want %q", got, want)
	}
}

func TestP2_1CallsAgreeWithRunes(t *testing.T) {
	r := rand.New(rand.NewSource(21))
	for range 20000 {
		s := randomText(r, false)
		runes := []rune(s)
		all := pieces(t, s)
		if letters.Len(s) != len(runes) || len(all) != len(runes) {
			t.Fatalf("%q: Len %d, All %d, want %d", s, letters.Len(s), len(all), len(runes))
		}
		for i, x := range runes {
			if got, e := letters.At(s, i); got != string(x) || e != api.OK || all[i] != got {
				t.Fatalf("At(%q, %d): got %q, error %d, All %q", s, i, got, int(e), all[i])
			}
		}
		if got, want := letters.Good(s), string(runes) == s; got != want {
			t.Fatalf("Good(%q): got %v", s, got)
		}
	}
}

func TestP2_2Has(t *testing.T) {
	rows := []struct {
		s, part string
		has     bool
	}{
		{"", "", true},
		{"abc", "", true},
		{"abc", "abc", true},
		{"abc", "a", true},
		{"abc", "bc", true},
		{"abc", "ac", false},
		{"abc", "abcd", false},
		{"abc", "B", false},
		{"", "a", false},
		{"aab", "ab", true},
		{"abacabad", "abad", true},
		{"\u00e9", "\xc3", true}, // bytes, not pieces
		{"\u00e9", "\xa9", true},
		{"\u00e9", "e", false},
		{"\xff\xfe", "\xfe", true},
		{"\xff", bad, false},
		{bad, "\xff", false},
		{"a\x00b", "\x00b", true},
	}
	for _, row := range rows {
		if got := letters.Has(row.s, row.part); got != row.has {
			t.Errorf("Has(%q, %q): got %v", row.s, row.part, got)
		}
	}
}

func TestP2_2Repeat(t *testing.T) {
	full := strings.Repeat("a", api.MaxText)
	wide := strings.Repeat("\U0001f600", api.MaxText)
	rows := []struct {
		s    string
		n    int
		want string
	}{
		{"ab", 3, "ababab"},
		{"ab", 1, "ab"},
		{"ab", 0, ""},
		{"ab", -1, ""},
		{"ab", math.MinInt, ""},
		{"", 0, ""},
		{"", -1, ""},
		{"", 5, ""},
		{"", math.MaxInt, ""},
		{"", api.MaxText + 1, ""},
		{"\u00e9\n", 2, "\u00e9\n\u00e9\n"},
		{"\xff", 3, "\xff\xff\xff"},
		{"\xa9\xc3", 2, "\xa9\xc3\xa9\xc3"},
		{"a", api.MaxText, full},
		{"ab", api.MaxText / 2, strings.Repeat("ab", api.MaxText/2)},
		{"abc", api.MaxText / 3, strings.Repeat("abc", api.MaxText/3)},
		{full, 1, full},
		{wide, 1, wide}, // pieces are counted, not bytes
		{"\U0001f600", api.MaxText, wide},
		{"\xff", api.MaxText, strings.Repeat("\xff", api.MaxText)},
		{full + "a", 0, ""},
		{full + "a", -7, ""},
	}
	for _, row := range rows {
		if got, e := letters.Repeat(row.s, row.n); got != row.want || e != api.OK {
			t.Errorf("Repeat of %d bytes, %d times: got %d bytes, error %d, want %d bytes", len(row.s), row.n, len(got), int(e), len(row.want))
		}
	}
}

func TestP2_2RepeatIsRefused(t *testing.T) {
	full := strings.Repeat("a", api.MaxText)
	rows := []struct {
		s string
		n int
	}{
		{"ab", 40000},
		{"a", api.MaxText + 1},
		{"ab", api.MaxText/2 + 1},
		{"abc", api.MaxText/3 + 1},
		{"\u00e9", api.MaxText + 1},
		{"\xff", api.MaxText + 1},
		{full, 2},
		{full + "a", 1},
		{"a", math.MaxInt},
		{"ab", 1 << 62}, // both wrap round to what would be let through
		{"abcd", 1 << 62},
		{"ab", 1<<63 - 1},
		{full, 1 << 48},
	}
	for _, row := range rows {
		if got, e := letters.Repeat(row.s, row.n); got != "" || e != api.ErrBig {
			t.Errorf("Repeat of %d bytes, %d times: got %d bytes, error %d, want ErrBig", len(row.s), row.n, len(got), int(e))
		}
	}
}

func TestP2_6PiecesMakeTheText(t *testing.T) {
	check := func(s string) {
		t.Helper()
		if got := strings.Join(pieces(t, s), ""); got != s {
			t.Fatalf("the pieces of %q: %q", s, got)
		}
	}
	for _, row := range texts {
		if row.good {
			check(row.s)
		}
	}
	for x := rune(0); x <= utf8.MaxRune; x += 7 {
		if utf8.ValidRune(x) {
			check("a" + string(x))
		}
	}
	r := rand.New(rand.NewSource(26))
	for range 20000 {
		check(randomText(r, true))
	}
}

func TestP2_6LenOfRepeat(t *testing.T) {
	r := rand.New(rand.NewSource(27))
	for range 5000 {
		s, n := randomText(r, true), r.Intn(50)
		got, e := letters.Repeat(s, n)
		if e != api.OK || letters.Len(got) != letters.Len(s)*n {
			t.Fatalf("Len(Repeat(%q, %d)): got %d, error %d, want %d", s, n, letters.Len(got), int(e), letters.Len(s)*n)
		}
	}
	for _, s := range []string{"a", "\u00e9", "ab\u20ac", strings.Repeat("\u00e9", 999)} {
		for n := api.MaxText/letters.Len(s) - 1; n <= api.MaxText/letters.Len(s)+1; n++ {
			got, e := letters.Repeat(s, n)
			wanted, want := letters.Len(s)*n, api.OK
			if wanted > api.MaxText {
				wanted, want = 0, api.ErrBig
			}
			if e != want || letters.Len(got) != wanted {
				t.Errorf("Repeat of %d pieces, %d times: got %d pieces, error %d", letters.Len(s), n, letters.Len(got), int(e))
			}
		}
	}
}

func TestExamplesOfPieces(t *testing.T) {
	const it = "a\u00f1"
	if got := letters.Len(it); got != 2 {
		t.Errorf("Len: got %d", got)
	}
	if got, e := letters.At(it, 1); got != "\u00f1" || e != api.OK {
		t.Errorf("At 1: got %q, error %d", got, int(e))
	}
	if got, e := letters.At(it, 2); got != "" || e != api.ErrIndex {
		t.Errorf("At 2: got %q, error %d", got, int(e))
	}
	if got, e := letters.At("\xff", 0); got != bad || e != api.OK {
		t.Errorf("At of ff: got %q, error %d", got, int(e))
	}
	if got, e := letters.Repeat("ab", 3); got != "ababab" || e != api.OK {
		t.Errorf("Repeat 3: got %q, error %d", got, int(e))
	}
	if got, e := letters.Repeat("ab", 40000); got != "" || e != api.ErrBig {
		t.Errorf("Repeat 40000: got %d bytes, error %d", len(got), int(e))
	}
	if got, e := letters.Repeat("", 1<<62); got != "" || e != api.OK {
		t.Errorf("Repeat of nothing: got %q, error %d", got, int(e))
	}
	if !letters.Has("abc", "") {
		t.Error("Has of no bytes")
	}
}

func ExampleAll() {
	for i, p := range letters.All("a\u00f1\xff") {
		fmt.Printf("%d %x\n", i, p)
	}
	// Output:
	// 0 61
	// 1 c3b1
	// 2 efbfbd
}

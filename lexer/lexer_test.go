package lexer_test

import (
	"fmt"
	"math/rand"
	"slices"
	"strings"
	"testing"

	"lexicon/api"
	"lexicon/lexer"
)

// kinds are the kinds of tokens by their numbers.
var kinds = []string{"none", "name", "word", "int", "str", "sign", "newline", "indent", "dedent", "end"}

// tell is tokens, or a fault, in one line: "name a 0, newline 1, end 1".
func tell(list []api.Token, fault api.Fault) string {
	if fault != (api.Fault{}) {
		if len(list) != 0 {
			return fmt.Sprintf("%d tokens beside fault %d %d", len(list), fault.Code, fault.At)
		}
		return fmt.Sprintf("fault %d %d", fault.Code, fault.At)
	}
	var parts []string
	for _, token := range list {
		part := kinds[token.Kind]
		if token.Text != "" {
			part += " " + token.Text
		}
		parts = append(parts, fmt.Sprint(part, " ", token.At))
	}
	return strings.Join(parts, ", ")
}

// reads fails unless a source is read as told, and as the model reads it.
func reads(t *testing.T, promise, src, want string) {
	t.Helper()
	if got := tell(lexer.Tokens([]byte(src))); got != want {
		t.Errorf("%s: %.80q:\n got %s\nwant %s", promise, src, got, want)
	}
	agree(t, src)
}

// faults fails unless a source is rejected so.
func faults(t *testing.T, promise, src string, code, at int) {
	t.Helper()
	reads(t, promise, src, fmt.Sprintf("fault %d %d", code, at))
}

// single fails unless a source is one token and what ends it.
func single(t *testing.T, promise, src string, kind int, text string) {
	t.Helper()
	got, fault := lexer.Tokens([]byte(src))
	want := []api.Token{{Kind: kind, Text: text}, {Kind: api.TokenNewline, At: len(src)}, {Kind: api.TokenEnd, At: len(src)}}
	if fault != (api.Fault{}) || !slices.Equal(got, want) {
		t.Errorf("%s: %.80q: %.200s", promise, src, tell(got, fault))
	}
	agree(t, src)
}

func TestP13_1Word(t *testing.T) {
	list := strings.Fields(words)
	if len(list) != 26 {
		t.Fatalf("%d words", len(list))
	}
	for _, w := range list {
		if !lexer.Word(w) {
			t.Errorf("Word(%q): false", w)
		}
		others := []string{w + "s", "s" + w, w + "_", "_" + w, w + "1", w + " ", " " + w, w + "\n", w + "=", w + "\x00", strings.ToUpper(w), w[1:], w[:len(w)-1], w + w}
		if lower := strings.ToLower(w); lower != w {
			others = append(others, lower)
		} else {
			others = append(others, strings.ToUpper(w[:1])+w[1:])
		}
		for _, other := range others {
			if lexer.Word(other) != slices.Contains(list, other) {
				t.Errorf("Word(%q): %t", other, lexer.Word(other))
			}
		}
	}
	for _, s := range []string{"", " ", "a", "print", "len", "self", "lambda", "import", "from", "with", "yield", "assert", "finally", "async", "match", "true", "none", "(", "==", "0", "\xff", "\u00e9", "and as", strings.Repeat("if", 100000)} {
		if lexer.Word(s) {
			t.Errorf("Word(%.20q): true", s)
		}
	}
}

func TestP13_2Long(t *testing.T) {
	for _, piece := range []string{" ", "a", "\n", "#", "!", "'", "(", "a\n", "\xff"} {
		for _, more := range []int{1, 2, 1000, api.MaxSource} {
			src := strings.Repeat(piece, api.MaxSource+more)[:api.MaxSource+more]
			faults(t, "P13.2", src, api.FaultLong, api.MaxSource)
		}
	}
	full := func(piece string) string { return strings.Repeat(piece, api.MaxSource)[:api.MaxSource] }
	reads(t, "P13.2", full(" "), "end 65536")
	reads(t, "P13.2", full("\n"), "end 65536")
	reads(t, "P13.2", full("#"), "end 65536")
	single(t, "P13.2", full("a"), api.TokenName, full("a"))
	quoted := "'" + full("x")[2:] + "'"
	single(t, "P13.2", quoted, api.TokenStr, quoted[1:api.MaxSource-1])
	faults(t, "P13.2", full("1"), api.FaultNumber, 0)
	for _, piece := range []string{"a\n", "()", "1 ", "''", "-", "=", ")", "a ", "(\n)", "if\n", "**=", "[ ]\n", "a\n b\n", "#\n"} {
		agree(t, full(piece))
	}
	if list, fault := lexer.Tokens([]byte(full("a\n"))); fault.Code != 0 || len(list) != api.MaxSource+1 {
		t.Errorf("P13.2: %d tokens, fault %v", len(list), fault)
	}
}

func TestP13_2First(t *testing.T) {
	faults(t, "P13.2", "a ! 07", api.FaultByte, 2)
	faults(t, "P13.2", "a 07 !", api.FaultNumber, 2)
	faults(t, "P13.2", "a 'b\n!", api.FaultStr, 2)
	faults(t, "P13.2", "a\n  b\n c !", api.FaultIndent, 7)
	faults(t, "P13.2", "a !\n  b\n c", api.FaultByte, 2)
	faults(t, "P13.2", strings.Repeat("(", api.MaxNest)+"!(", api.FaultByte, api.MaxNest)
	faults(t, "P13.2", strings.Repeat("(", api.MaxNest)+"(!", api.FaultDeep, api.MaxNest)
	faults(t, "P13.2", "a 1a 1b", api.FaultNumber, 2)
	// The blocks at the end are not told beside it.
	faults(t, "P13.2", "if a:\n  b\n  !", api.FaultByte, 12)
}

// TestP13_3Names: names and words, each with a letter, a digit or a sign more.
func TestP13_3Names(t *testing.T) {
	for _, w := range strings.Fields(words) {
		single(t, "P13.3", w, api.TokenWord, w)
		for _, more := range []string{"a", "Z", "_", "0", "9"} {
			single(t, "P13.3", w+more, api.TokenName, w+more)
		}
		for _, ahead := range []string{"a", "Z", "_"} {
			name := ahead + w
			if lexer.Word(name) {
				t.Fatal(name)
			}
			single(t, "P13.3", name, api.TokenName, name)
		}
		reads(t, "P13.3", w+"(", fmt.Sprintf("word %s 0, sign ( %d, newline %d, end %d", w, len(w), len(w)+1, len(w)+1))
		reads(t, "P13.3", "-"+w, fmt.Sprintf("sign - 0, word %s 1, newline %d, end %d", w, len(w)+1, len(w)+1))
		faults(t, "P13.3", "1"+w, api.FaultNumber, 0)
	}
	for c := range 256 {
		s := string([]byte{byte(c)})
		if strings.Contains("abcdefghijklmnopqrstuvwxyzABCDEFGHIJKLMNOPQRSTUVWXYZ_", s) {
			single(t, "P13.3", s, api.TokenName, s)
			single(t, "P13.3", s+"0"+s, api.TokenName, s+"0"+s)
		}
	}
	single(t, "P13.3", "_", api.TokenName, "_")
	single(t, "P13.3", "__init__", api.TokenName, "__init__")
	single(t, "P13.3", "print", api.TokenName, "print")
	reads(t, "P13.3", "a.b", "name a 0, sign . 1, name b 2, newline 3, end 3")
	reads(t, "P13.3", "not in", "word not 0, word in 4, newline 6, end 6")
	reads(t, "P13.3", "a'b'c", "name a 0, str b 1, name c 4, newline 5, end 5")
	faults(t, "P13.3", "a\u00e9", api.FaultByte, 1)
}

func TestP13_3Numbers(t *testing.T) {
	for _, s := range []string{"0", "1", "9", "10", "907", "1234567890", strings.Repeat("9", api.MaxDigits), "1" + strings.Repeat("0", api.MaxDigits-1)} {
		single(t, "P13.3", s, api.TokenInt, s)
		faults(t, "P13.3", "0"+s, api.FaultNumber, 0)
	}
	for _, s := range []string{"00", "01", "07", "000", "1a", "1A", "0a", "0x1", "1_0", "1_", "0_", "1e5", "9z9", "1if",
		strings.Repeat("9", api.MaxDigits+1), strings.Repeat("0", api.MaxDigits), strings.Repeat("1", 5000), strings.Repeat("1", api.MaxDigits) + "a"} {
		faults(t, "P13.3", s, api.FaultNumber, 0)
		faults(t, "P13.3", "a + "+s+" !", api.FaultNumber, 4)
	}
	reads(t, "P13.3", "1.5", "int 1 0, sign . 1, int 5 2, newline 3, end 3")
	reads(t, "P13.3", "-7", "sign - 0, int 7 1, newline 2, end 2")
	reads(t, "P13.3", "0 0", "int 0 0, int 0 2, newline 3, end 3")
	reads(t, "P13.3", "a07 a", "name a07 0, name a 4, newline 5, end 5")
	reads(t, "P13.3", "1'a'2", "int 1 0, str a 1, int 2 4, newline 5, end 5")
	faults(t, "P13.3", "1\xff", api.FaultByte, 1)
}

func TestP13_3Strs(t *testing.T) {
	for src, said := range map[string]string{
		`''`: "", `""`: "", `'a'`: "a", `"a"`: "a", `"it's"`: "it's", `'"'`: `"`,
		`'\\'`: `\`, `'\''`: "'", `'\"'`: `"`, `"\'"`: "'", `"\""`: `"`, `'\n'`: "\n", `'\t'`: "\t",
		`'\x41'`: "A", `'\x00'`: "\x00", `'\x7f'`: "\x7f", `'\x7F'`: "\x7f", `'\u00e9'`: "\u00e9", `'\uFFFD'`: "\ufffd", `'\u2028'`: "\u2028",
		"'\u00e9\u20ac\U0001f600'": "\u00e9\u20ac\U0001f600", "'\ufffd'": "\ufffd", "' # ('": " # (", "'if'": "if",
	} {
		single(t, "P13.3", src, api.TokenStr, said)
		n := len(src)
		got, fault := lexer.Tokens([]byte("(" + src + "b"))
		if want := []api.Token{{Kind: api.TokenSign, Text: "("}, {Kind: api.TokenStr, Text: said, At: 1}, {Kind: api.TokenName, Text: "b", At: n + 1}, {Kind: api.TokenNewline, At: n + 2}, {Kind: api.TokenEnd, At: n + 2}}; fault.Code != 0 || !slices.Equal(got, want) {
			t.Errorf("P13.3: (%sb: %s", src, tell(got, fault))
		}
	}
	for _, src := range []string{`'`, `"`, `'a`, `"a`, `'a"`, `"a'`, `'a\'`, `'\`, `'\q'`, `'\N'`, `'\0'`, `'\r'`, `'\x'`, `'\x4'`, `'\x4g'`, `'\x80'`, `'\xff'`, `'\u'`, `'\u12'`, `'\u123g'`, `'\ud800'`, `'\udfff'`,
		"'\t'", "'\x00'", "'\x1f'", "'\x7f'", "'\r'", "'a\nb'", "'a\\\nb'", "'\xff'", "'\xc3'", "'\xed\xa0\x80'", "'a#", "'\n'"} {
		faults(t, "P13.3", src, api.FaultStr, 0)
		faults(t, "P13.3", "a = "+src, api.FaultStr, 4)
		faults(t, "P13.3", "("+src+"!", api.FaultStr, 1)
	}
	reads(t, "P13.3", `'a''b'"c"`, "str a 0, str b 3, str c 6, newline 9, end 9")
	reads(t, "P13.3", `'''`[:2]+` 'a'`, "str 0, str a 3, newline 6, end 6")
	faults(t, "P13.3", `'''`, api.FaultStr, 2)
	single(t, "P13.3", "'"+strings.Repeat("a", 60000)+"'", api.TokenStr, strings.Repeat("a", 60000))
}

func TestP13_3Signs(t *testing.T) {
	list := strings.Fields(signs)
	if len(list) != 33 {
		t.Fatalf("%d signs", len(list))
	}
	for _, s := range list {
		single(t, "P13.3", s, api.TokenSign, s)
		n := len(s)
		reads(t, "P13.3", s+"a", fmt.Sprintf("sign %s 0, name a %d, newline %d, end %d", s, n, n+1, n+1))
		reads(t, "P13.3", s+"1", fmt.Sprintf("sign %s 0, int 1 %d, newline %d, end %d", s, n, n+1, n+1))
		reads(t, "P13.3", s+" =", fmt.Sprintf("sign %s 0, sign = %d, newline %d, end %d", s, n+1, n+2, n+2))
		reads(t, "P13.3", "a"+s, fmt.Sprintf("name a 0, sign %s 1, newline %d, end %d", s, n+1, n+1))
		for _, more := range list {
			agree(t, s+more)
			for _, third := range list {
				agree(t, s+more+third)
			}
		}
	}
	for src, want := range map[string]string{
		"===":  "sign == 0, sign = 2, newline 3, end 3",
		"****": "sign ** 0, sign ** 2, newline 4, end 4",
		"***":  "sign ** 0, sign * 2, newline 3, end 3",
		"*==":  "sign *= 0, sign = 2, newline 3, end 3",
		"<<=":  "sign < 0, sign <= 1, newline 3, end 3",
		"->":   "sign - 0, sign > 1, newline 2, end 2",
		":=":   "sign : 0, sign = 1, newline 2, end 2",
		"!==":  "sign != 0, sign = 2, newline 3, end 3",
		"//=/": "fault 102 3",
		"////": "sign // 0, sign // 2, newline 4, end 4",
		"///":  "fault 102 2",
		"/":    "fault 102 0",
		"/=":   "fault 102 0",
		"/ /":  "fault 102 0",
		"!":    "fault 102 0",
		"! =":  "fault 102 0",
		"!!=":  "fault 102 0",
		"!a":   "fault 102 0",
		"...":  "sign . 0, sign . 1, sign . 2, newline 3, end 3",
		"++":   "sign + 0, sign + 1, newline 2, end 2",
		",=":   "sign , 0, sign = 1, newline 2, end 2",
		"()=":  "sign ( 0, sign ) 1, sign = 2, newline 3, end 3",
		"<>":   "sign < 0, sign > 1, newline 2, end 2",
		">>==": "sign > 0, sign >= 1, sign = 3, newline 4, end 4",
		"a=-1": "name a 0, sign = 1, sign - 2, int 1 3, newline 4, end 4",
		"* *":  "sign * 0, sign * 2, newline 3, end 3",
		"a**b": "name a 0, sign ** 1, name b 3, newline 4, end 4",
		"%=%":  "sign %= 0, sign % 2, newline 3, end 3",
		"&&":   "sign & 0, sign & 1, newline 2, end 2",
		"|=^=": "sign |= 0, sign ^= 2, newline 4, end 4",
	} {
		reads(t, "P13.3", src, want)
	}
}

// TestP13_3Bytes: every byte that begins nothing, at the beginning, behind a token, within brackets.
func TestP13_3Bytes(t *testing.T) {
	const begin = "abcdefghijklmnopqrstuvwxyzABCDEFGHIJKLMNOPQRSTUVWXYZ_0123456789'\"()[]{},:.=<>+-*%&|^ \n#"
	bad := 0
	for c := range 256 {
		s := string([]byte{byte(c)})
		if strings.Contains(begin, s) {
			continue
		}
		bad++
		faults(t, "P13.3", s, api.FaultByte, 0)
		faults(t, "P13.3", s+"a", api.FaultByte, 0)
		faults(t, "P13.3", "a"+s, api.FaultByte, 1)
		faults(t, "P13.3", "a "+s+" b", api.FaultByte, 2)
		faults(t, "P13.3", "(\n"+s, api.FaultByte, 2)
		faults(t, "P13.3", "a\n"+s+"\n", api.FaultByte, 2)
		faults(t, "P13.3", "  "+s, api.FaultByte, 2)
		reads(t, "P13.2", "#"+s, "end 2")
		reads(t, "P13.2", "a #"+s+"\n", "name a 0, newline 4, end 5")
	}
	if bad != 256-len(begin) {
		t.Errorf("%d bytes that begin nothing", bad)
	}
	faults(t, "P13.3", "a\r\nb", api.FaultByte, 1)
	faults(t, "P13.3", "\ufeffa", api.FaultByte, 0)
	faults(t, "P13.3", "a\tb", api.FaultByte, 1)
	faults(t, "P13.3", "a\\\nb", api.FaultByte, 1)
	faults(t, "P13.3", "a;b", api.FaultByte, 1)
}

func TestP13_3Nest(t *testing.T) {
	for _, brackets := range []string{"(((", "[[[", "{{{", "([{", "{(["} {
		deep := strings.Repeat(brackets, api.MaxNest/3)
		if list, fault := lexer.Tokens([]byte(deep)); fault.Code != 0 || len(list) != api.MaxNest+2 {
			t.Errorf("P13.3: %d tokens, fault %v", len(list), fault)
		}
		agree(t, deep)
		for _, more := range []string{"(", "[", "{"} {
			faults(t, "P13.3", deep+more, api.FaultDeep, api.MaxNest)
			faults(t, "P13.3", deep+"\n "+more, api.FaultDeep, api.MaxNest+2)
			// One that was closed, by whichever, leaves room for one.
			for _, closing := range []string{")", "]", "}"} {
				agree(t, deep+closing+more)
				faults(t, "P13.3", deep+closing+more+more, api.FaultDeep, api.MaxNest+2)
			}
		}
		if _, fault := lexer.Tokens([]byte(deep + ")(")); fault.Code != 0 {
			t.Errorf("P13.3: fault %v", fault)
		}
	}
	// Closing ones with none open leave no more room than there is.
	faults(t, "P13.4", strings.Repeat(")", 5)+strings.Repeat("(", api.MaxNest+1), api.FaultDeep, api.MaxNest+5)
	if _, fault := lexer.Tokens([]byte(strings.Repeat("[]", 1000))); fault.Code != 0 {
		t.Errorf("P13.3: fault %v", fault)
	}
	if _, fault := lexer.Tokens([]byte("'" + strings.Repeat("(", 1000) + "' #" + strings.Repeat("(", 1000))); fault.Code != 0 {
		t.Errorf("P13.3: brackets in a text and in a remark: fault %v", fault)
	}
}

func TestP13_4Brackets(t *testing.T) {
	for src, want := range map[string]string{
		"(\n)":              "sign ( 0, sign ) 2, newline 3, end 3",
		"(\n\n\n)\n":        "sign ( 0, sign ) 4, newline 5, end 6",
		"[\n a,\nb\n  ]\nc": "sign [ 0, name a 3, sign , 4, name b 6, sign ] 10, newline 11, name c 12, newline 13, end 13",
		"({\n]\n}\na":       "sign ( 0, sign { 1, sign ] 3, sign } 5, newline 6, name a 7, newline 8, end 8",
		"(}\na":             "sign ( 0, sign } 1, newline 2, name a 3, newline 4, end 4",
		"]\na":              "sign ] 0, newline 1, name a 2, newline 3, end 3",
		")(\na)\nb":         "sign ) 0, sign ( 1, name a 3, sign ) 4, newline 5, name b 6, newline 7, end 7",
		"))\n(\n)\na":       "sign ) 0, sign ) 1, newline 2, sign ( 3, sign ) 5, newline 6, name a 7, newline 8, end 8",
		"(a\n":              "sign ( 0, name a 1, newline 3, end 3",
		"(\n":               "sign ( 0, newline 2, end 2",
		"(":                 "sign ( 0, newline 1, end 1",
		"{ # )\n}":          "sign { 0, sign } 6, newline 7, end 7",
		"(')'\n)":           "sign ( 0, str ) 1, sign ) 5, newline 6, end 6",
		// A line that begins within brackets has no depth, whatever its blanks.
		"a\n (\nb\n   )\n c\nd": "name a 0, newline 1, indent 3, sign ( 3, name b 5, sign ) 10, newline 11, name c 13, newline 14, dedent 15, name d 15, newline 16, end 16",
		"(\n  ) a\nb":           "sign ( 0, sign ) 4, name a 6, newline 7, name b 8, newline 9, end 9",
		"(\n)(\n)\na":           "sign ( 0, sign ) 2, sign ( 3, sign ) 5, newline 6, name a 7, newline 8, end 8",
	} {
		reads(t, "P13.4", src, want)
	}
}

func TestP13_5Idle(t *testing.T) {
	for src, want := range map[string]string{
		"\n":                          "end 1",
		"\n\n\n":                      "end 3",
		"   ":                         "end 3",
		"   \n":                       "end 4",
		"#":                           "end 1",
		"# x":                         "end 3",
		"   # x\n  \n#":               "end 11",
		"\n  \n# y\na":                "name a 8, newline 9, end 9",
		"a\n\n  \n      # x\nb":       "name a 0, newline 1, name b 16, newline 17, end 17",
		"if a:\n b\n\n# x\n     \n c": "word if 0, name a 3, sign : 4, newline 5, indent 7, name b 7, newline 8, name c 21, newline 22, dedent 22, end 22",
		"if a:\n b\n#":                "word if 0, name a 3, sign : 4, newline 5, indent 7, name b 7, newline 8, dedent 10, end 10",
		" # x\na":                     "name a 5, newline 6, end 6",
		"(\n\n # x\n\n)\n":            "sign ( 0, sign ) 9, newline 10, end 11",
		"(#\n#\n":                     "sign ( 0, newline 5, end 5",
		"a\n \n":                      "name a 0, newline 1, end 4",
		"a\n ":                        "name a 0, newline 1, end 3",
		"a\n  # x":                    "name a 0, newline 1, end 7",
		"a # x\n":                     "name a 0, newline 5, end 6",
		"a  \n":                       "name a 0, newline 3, end 4",
	} {
		reads(t, "P13.5", src, want)
	}
	// A line with anything else is none of these.
	faults(t, "P13.5", "a\n  b\n \t\nc", api.FaultIndent, 7)
	faults(t, "P13.5", "  \t# x", api.FaultByte, 2)
	faults(t, "P13.5", "a\n\r\n", api.FaultByte, 2)
}

func TestP13_5Blocks(t *testing.T) {
	for src, want := range map[string]string{
		" a":                       "indent 1, name a 1, newline 2, dedent 2, end 2",
		" a\n b":                   "indent 1, name a 1, newline 2, name b 4, newline 5, dedent 5, end 5",
		" a\nb":                    "indent 1, name a 1, newline 2, dedent 3, name b 3, newline 4, end 4",
		"a\n b\n   c\n    d\ne":    "name a 0, newline 1, indent 3, name b 3, newline 4, indent 8, name c 8, newline 9, indent 14, name d 14, newline 15, dedent 16, dedent 16, dedent 16, name e 16, newline 17, end 17",
		"a\n b\n   c\n    d\n e":   "name a 0, newline 1, indent 3, name b 3, newline 4, indent 8, name c 8, newline 9, indent 14, name d 14, newline 15, dedent 17, dedent 17, name e 17, newline 18, dedent 18, end 18",
		"a\n b\n   c\n    d\n   e": "name a 0, newline 1, indent 3, name b 3, newline 4, indent 8, name c 8, newline 9, indent 14, name d 14, newline 15, dedent 19, name e 19, newline 20, dedent 20, dedent 20, end 20",
		"a\n b\nc\n  d\n":          "name a 0, newline 1, indent 3, name b 3, newline 4, dedent 5, name c 5, newline 6, indent 9, name d 9, newline 10, dedent 11, end 11",
		" (\n)\n":                  "indent 1, sign ( 1, sign ) 3, newline 4, dedent 5, end 5",
		"  'x'":                    "indent 2, str x 2, newline 5, dedent 5, end 5",
	} {
		reads(t, "P13.5", src, want)
	}
	faults(t, "P13.5", "a\n  b\n c", api.FaultIndent, 7)
	faults(t, "P13.5", "  a\n b", api.FaultIndent, 5)
	faults(t, "P13.5", "a\n b\n    c\n  d", api.FaultIndent, 13)
	faults(t, "P13.5", "a\n  b\n     c\n d", api.FaultIndent, 14)
	faults(t, "P13.5", "a\n  b\n\n# x\n c", api.FaultIndent, 12)
	// A depth that was open once, and is not any more.
	faults(t, "P13.5", "a\n  b\nc\n    d\n  e", api.FaultIndent, 16)
	// The line's first token offends later.
	for _, bad := range []string{"!", "07", "'", "\t", "\xff"} {
		faults(t, "P13.5", "a\n  b\n "+bad, api.FaultIndent, 7)
	}
}

// stairs is lines of which each is deeper by so much than the one ahead.
func stairs(lines, step int) string {
	var src strings.Builder
	for i := range lines {
		src.WriteString(strings.Repeat(" ", i*step) + "a\n")
	}
	return src.String()
}

func TestP13_5Deep(t *testing.T) {
	for _, step := range []int{1, 2, 7} {
		src := stairs(api.MaxIndent+1, step)
		list, fault := lexer.Tokens([]byte(src))
		// A name and its Newline a line, an Indent and a Dedent a block, the End.
		if want := 2*(api.MaxIndent+1) + 2*api.MaxIndent + 1; fault.Code != 0 || len(list) != want {
			t.Errorf("P13.5: steps of %d: %d tokens, fault %v", step, len(list), fault)
		}
		agree(t, src)
		deeper := strings.Repeat(" ", step*api.MaxIndent+1)
		for _, last := range []string{"a", "a\n", "!", "07", "'"} {
			faults(t, "P13.5", src+deeper+last, api.FaultDeep, len(src)+len(deeper))
		}
		agree(t, src+deeper+"# no line\n")
		same := strings.Repeat(" ", step*api.MaxIndent)
		faults(t, "P13.5", src+same+"b\n"+deeper+"c", api.FaultDeep, len(src)+2*len(same)+3)
		// A block that was closed leaves room for one.
		agree(t, src+"a\n"+src)
		agree(t, src+same[step:]+"b\n"+deeper+"c")
		if _, fault := lexer.Tokens([]byte(src + same[step:] + "b\n" + deeper + "c")); fault.Code != 0 {
			t.Errorf("P13.5: a block in place of another: fault %v", fault)
		}
		faults(t, "P13.5", src+same[step:]+"b\n"+deeper+"c\n"+deeper+" d", api.FaultDeep, len(src+same[step:]+deeper+deeper)+5)
	}
	// Within brackets there are no blocks.
	agree(t, "(\n"+stairs(100, 1)+")")
	if _, fault := lexer.Tokens([]byte("(\n" + stairs(100, 1) + ")")); fault.Code != 0 {
		t.Errorf("P13.4: lines within brackets: fault %v", fault)
	}
	single(t, "P13.6", "a", api.TokenName, "a")
}

func TestP13_6End(t *testing.T) {
	for src, want := range map[string]string{
		"":             "end 0",
		"a":            "name a 0, newline 1, end 1",
		"a\n":          "name a 0, newline 1, end 2",
		"a\n\n\n":      "name a 0, newline 1, end 4",
		"a   ":         "name a 0, newline 4, end 4",
		"a # x":        "name a 0, newline 5, end 5",
		"a#":           "name a 0, newline 2, end 2",
		"a\n  b":       "name a 0, newline 1, indent 4, name b 4, newline 5, dedent 5, end 5",
		"a\n  b\n":     "name a 0, newline 1, indent 4, name b 4, newline 5, dedent 6, end 6",
		"a\n  b #x":    "name a 0, newline 1, indent 4, name b 4, newline 8, dedent 8, end 8",
		" a\n  b\n\n ": "indent 1, name a 1, newline 2, indent 5, name b 5, newline 6, dedent 9, dedent 9, end 9",
		" (":           "indent 1, sign ( 1, newline 2, dedent 2, end 2",
		" (\n\n":       "indent 1, sign ( 1, newline 4, dedent 4, end 4",
		"'a'":          "str a 0, newline 3, end 3",
		"1":            "int 1 0, newline 1, end 1",
		"pass":         "word pass 0, newline 4, end 4",
	} {
		reads(t, "P13.6", src, want)
	}
	for _, src := range [][]byte{nil, {}, make([]byte, 0, 10)} {
		if list, fault := lexer.Tokens(src); tell(list, fault) != "end 0" {
			t.Errorf("P13.6: no bytes: %s", tell(list, fault))
		}
	}
}

// program is a source with something of everything.
const program = "class A:\n  def f(self, x=1):\n    # why\n    if x >= 10 and not x in {\n       1: 'a', # one\n\n       2: \"b\\n\"}:\n      return x ** 2 // 3\n    return [\n1]\n\n\na = A()\nprint(a.f(12))\n"

func TestP13_7Places(t *testing.T) {
	for n := range len(program) + 1 {
		agree(t, program[:n])
		agree(t, program[n:])
	}
	list, fault := lexer.Tokens([]byte(program))
	if fault.Code != 0 {
		t.Fatalf("fault %v", fault)
	}
	for _, token := range list {
		if token.Text != "" && token.Kind != api.TokenStr && !strings.HasPrefix(program[token.At:], token.Text) {
			t.Errorf("P13.3: %q does not stand at %d", token.Text, token.At)
		}
	}
	orderly(t, program, list)
}

// bare is tokens without their places.
func bare(list []api.Token) []api.Token {
	list = slices.Clone(list)
	for i := range list {
		list[i].At = 0
	}
	return list
}

// TestP13_8Blanks lays blanks between tokens, lines of nothing and remarks into a source: the tokens are the same.
func TestP13_8Blanks(t *testing.T) {
	for _, src := range []string{program, stairs(20, 2), "a=1", " a\n  b\n c\n", "(a\n", "x**=y\n[1,\n2]\n"} {
		list, fault := lexer.Tokens([]byte(src))
		if fault.Code != 0 {
			t.Fatalf("%q: fault %v", src, fault)
		}
		for seed := range 200 {
			r := rand.New(rand.NewSource(int64(seed)))
			other := loosened(r, src, list)
			got, fault := lexer.Tokens([]byte(other))
			if fault.Code != 0 || !slices.Equal(bare(got), bare(list)) {
				t.Fatalf("P13.8: %q:\n%s\n%q:\n%s", src, tell(list, api.Fault{}), other, tell(got, fault))
			}
			orderly(t, other, got)
		}
	}
}

// loosened is a source with more blanks, lines of nothing and remarks.
func loosened(r *rand.Rand, src string, list []api.Token) string {
	remark := func() string { return []string{"", "#", "# it's (\xff\t", "#)"}[r.Intn(4)] }
	idle := func() string { return strings.Repeat(" ", r.Intn(5)) + remark() + "\n" }
	out, last, open := "", 0, 0
	for range r.Intn(3) {
		out += idle()
	}
	first := true // of its line: blanks ahead of it are the line's depth
	for _, token := range list {
		if token.Kind > api.TokenNewline {
			continue
		}
		out += src[last:token.At]
		last = token.At
		if token.Kind == api.TokenNewline {
			out += strings.Repeat(" ", r.Intn(3)) + remark() + "\n"
			for range r.Intn(3) {
				out += idle()
			}
			last, first = min(last+1, len(src)), true
			continue
		}
		if open > 0 && r.Intn(3) == 0 {
			out += idle() + idle()
		}
		if !first {
			out += strings.Repeat(" ", r.Intn(3))
		}
		first = false
		if token.Kind == api.TokenSign && strings.Contains("([{", token.Text) {
			open++
		} else if token.Kind == api.TokenSign && strings.Contains(")]}", token.Text) {
			open = max(0, open-1)
		}
	}
	return out + src[last:] + strings.Repeat(" ", r.Intn(3)) + remark()
}

func TestP13_9HandedIn(t *testing.T) {
	for _, src := range []string{program, "a", "'abc'", "", "a !", "07", strings.Repeat("a", api.MaxSource+1)} {
		const spare = "spare room"
		room := append([]byte(src), spare...)
		given := room[:len(src)]
		list, fault := lexer.Tokens(given)
		before := tell(list, fault)
		if string(room) != src+spare {
			t.Errorf("P13.9: %.40q was changed", src)
		}
		for i := range room {
			room[i] = '!'
		}
		if after := tell(list, fault); after != before {
			t.Errorf("P13.9: kept what was handed in: %s, was %s", after, before)
		}
	}
}

func TestP13_9NewMemory(t *testing.T) {
	src := []byte(program)
	first, _ := lexer.Tokens(src)
	second, _ := lexer.Tokens(src)
	want := slices.Clone(second)
	for i := range first {
		first[i] = api.Token{Kind: -1, Text: "other", At: -1}
	}
	_ = append(first[:3], first...)
	if !slices.Equal(second, want) || string(src) != program {
		t.Error("P13.9: an answer changed with another one")
	}
	third, _ := lexer.Tokens(src)
	if !slices.Equal(third, want) {
		t.Error("P13.9: a later call tells something else")
	}
	if list, fault := lexer.Tokens([]byte("!")); len(list) != 0 || fault != (api.Fault{Code: api.FaultByte}) {
		t.Errorf("P13.2: behind others: %s", tell(list, fault))
	}
}

func TestExamplesOfChapter13(t *testing.T) {
	for _, row := range []struct{ src, want string }{
		{"", "end 0"},
		{" # x", "end 4"},
		{"a=1", "name a 0, sign = 1, int 1 2, newline 3, end 3"},
		{"if a:\n b\n", "word if 0, name a 3, sign : 4, newline 5, indent 7, name b 7, newline 8, dedent 9, end 9"},
		{"(\n a)\n", "sign ( 0, name a 3, sign ) 4, newline 5, end 6"},
		{"x**=y", "name x 0, sign ** 1, sign = 3, name y 4, newline 5, end 5"},
		{"07", "fault 105 0"},
		{"1a", "fault 105 0"},
		{"'a", "fault 104 0"},
		{"a!", "fault 102 1"},
		{"a/b", "fault 102 1"},
		{"\t", "fault 102 0"},
		{"if a:\n  b\n c", "fault 103 11"},
	} {
		reads(t, "examples", row.src, row.want)
	}
}

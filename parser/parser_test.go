package parser_test

import (
	"fmt"
	"runtime/debug"
	"slices"
	"strings"
	"testing"

	"lexicon/api"
	"lexicon/letters"
	"lexicon/lexer"
	"lexicon/parser"
	"lexicon/tree"
)

func TestMain(m *testing.M) {
	debug.SetGCPercent(400) // the model leaves much behind it
	m.Run()
}

// said is what came of a call, in one line.
func said(n api.Node, f api.Fault) string {
	if f != (api.Fault{}) {
		if !same(n, api.Node{}) {
			return "a tree beside a fault"
		}
		return fmt.Sprint("fault ", f.Code, " ", f.At)
	}
	return tell(n, true)
}

func lexed(t testing.TB, src string) []api.Token {
	t.Helper()
	list, f := lexer.Tokens([]byte(src))
	if f != (api.Fault{}) {
		t.Fatalf("%q: %v", src, f)
	}
	return list
}

// inWords is tokens in one line.
func inWords(list []api.Token) string {
	var words []string
	for _, x := range list {
		words = append(words, fmt.Sprintf("%d:%.20q@%d", x.Kind, x.Text, x.At))
	}
	return strings.Join(words, " ")
}

// agree holds Parse against the model.
func agree(t testing.TB, list []api.Token) (api.Node, api.Fault) {
	t.Helper()
	n, f := parser.Parse(list)
	wantTree, wantFault := modelParse(list)
	if f != wantFault || !same(n, wantTree) {
		t.Fatalf("P15.1 to P15.5: %s:\n got %.300s\nwant %.300s", inWords(list), said(n, f), said(wantTree, wantFault))
	}
	if f == (api.Fault{}) && tree.Check(n) != api.OK {
		t.Fatalf("P15.7: %s: no tree of chapter 14: %s", inWords(list), tell(n, true))
	}
	return n, f
}

// samples have each row of the grammar, each part that may be missing there
// and not there, each part that may come again none, once and several times.
var samples = []string{
	"", "a", "a\nb",
	"if a:\n b", "if a:\n b\n c\nd", "if a:\n b\nelse:\n c", "if a:\n b\nelif c:\n d", "if a:\n b\nelif c:\n d\nelif e:\n f\nelse:\n g",
	"if a:\n if b:\n  c\n else:\n  d\nelse:\n e",
	"while a:\n pass", "for a in b:\n pass", "for a, b.c, d[e] in f, g:\n pass", "for (a) in b,:\n pass",
	"def f():\n pass", "def f(a):\n pass", "def f(a,):\n pass", "def f(a, b=1):\n pass", "def f(a=1, b=2,):\n pass", "def f(**c):\n pass", "def f(**c,):\n pass", "def f(a, b=1, **c,):\n pass",
	"class A:\n pass", "class A(B):\n pass",
	"try:\n a\nexcept:\n b", "try:\n a\nexcept B:\n c\nexcept D as e:\n f\nexcept:\n g",
	"pass", "break", "continue", "return", "return a", "return a, b,", "raise", "raise a",
	"global a", "global a, b, c", "nonlocal a", "nonlocal a, b", "del a", "del a.b", "del a[b](c)[d]",
	"a = b", "a, b = c", "(a, b) = c, d", "a.b = c", "a[b] = c", "a += b", "a.b -= c, d", "a[b] //= c", "a *= b", "a %= b", "a &= b", "a |= b", "a ^= b",
	"a, ", "a, b, c", "a if b else c", "a if b else c if d else e", "a or b or c", "a and b and c", "not not a",
	"a == b", "a != b", "a < b", "a <= b", "a > b", "a >= b", "a in b", "a not in b", "a is b", "a is not b",
	"a | b | c", "a ^ b ^ c", "a & b & c", "a + b - c", "a * b // c % d", "- - a", "a or b and not c < d | e ^ f & g + h * -i.j",
	"f()", "f(a)", "f(a,)", "f(a, b, k=c, l=d, **e)", "f(k=a,)", "f(**a,)", "a.b.c", "a[b]", "a[b, c]", "a[b,]", "f(a)(b).c[d]",
	"1", "'s'", "None", "True", "False", "()", "(a)", "(a,)", "(a, b)", "(a, b,)", "((a))",
	"[]", "[a]", "[a,]", "[a, b]", "[a for b in c]", "[a for b, c in d if e if f]",
	"{}", "{a}", "{a,}", "{a, b}", "{a for b in c}", "{a: b}", "{a: b,}", "{a: b, **c, d: e}", "{**a}", "{**a,}", "{a: b for c, d in e if f}",
}

// TestP15_1Rows cuts each sample at every token, lays a token too many at
// every place, and another one in the place of each.
func TestP15_1Rows(t *testing.T) {
	words := vocabulary()
	for _, src := range samples {
		list := lexed(t, src)
		t.Run("", func(t *testing.T) {
			t.Parallel()
			if _, f := agree(t, list); f != (api.Fault{}) {
				t.Errorf("P15.1: %q: %v", src, f)
			}
			for i := range list {
				agree(t, list[:i])
				agree(t, slices.Concat(list[:i], list[i+1:]))
				for _, word := range words {
					word.At = 900
					agree(t, slices.Concat(list[:i], []api.Token{word}, list[i:]))
					agree(t, slices.Concat(list[:i], []api.Token{word}, list[i+1:]))
				}
			}
		})
	}
}

// statement is the tree of a source of one statement, without places, or the
// fault.
func statement(src string) string {
	n, f := parser.Source([]byte(src))
	if f != (api.Fault{}) {
		return said(n, f)
	}
	if len(n.Kids) != 1 || len(n.Kids[0].Kids) != 1 {
		return "not one statement: " + said(n, f)
	}
	return tell(n.Kids[0].Kids[0], false)
}

// hold holds sources against their trees or faults, and against the model.
func hold(t *testing.T, promise string, rows map[string]string, of func(string) string) {
	t.Helper()
	for src, want := range rows {
		if got := of(src); got != want {
			t.Errorf("%s: %q is\n%s, not\n%s", promise, src, got, want)
		}
		agree(t, lexed(t, src))
	}
}

func TestExamplesOfChapter15(t *testing.T) {
	hold(t, "examples", map[string]string{
		"a, b = b, a":               "Unpack(Targets(a, b), Tuple(b, a))",
		"d[1, 2] += x":              "Augment +(Index(d, Tuple(1, 2)), x)",
		"{k: v for k, v in d if v}": "Expr(DictComp(Pair(k, v), Targets(k, v), d, v))",
		"f(1, k=2, **r)":            "Expr(Call(f, 1, Keyword k(2), Spread(r)))",
		"not a in b":                "Expr(Not(Compare in(a, b)))",
		"a if b else c if d else e": "Expr(Choose(a, b, Choose(c, d, e)))",
		"a < b < c":                 "fault 106 6",
		"f(k=1, 2)":                 "fault 106 7",
		"1 = a":                     "fault 108 0",
		"(a) = 1":                   "Assign(a, 1)",
		"a, = b":                    "fault 108 0",
		"del f()":                   "fault 108 4",
		"x +=":                      "fault 106 4",
	}, statement)
}

// tokens are made of words with a blank between, each at ten times its number:
// NL, IN, DE, END; numbers; a text that begins with a quote; words and signs;
// names.
func tokens(text string) []api.Token {
	kinds := map[string]int{"NL": 6, "IN": 7, "DE": 8, "END": 9}
	var list []api.Token
	for i, word := range strings.Fields(text) {
		t := api.Token{Kind: kinds[word], At: 10 * i}
		switch {
		case t.Kind != 0:
		case word[0] == '\'':
			t.Kind, t.Text = 4, word[1:]
		case intForm.MatchString(word):
			t.Kind, t.Text = 3, word
		case nameForm.MatchString(word) && !isWord(word):
			t.Kind, t.Text = 1, word
		default:
			t.Kind, t.Text = markKind(word), word
		}
		list = append(list, t)
	}
	return list
}

func TestP15_1Ends(t *testing.T) {
	for text, want := range map[string]string{
		"":                         "Module@0(Block@0)",
		"END":                      "Module@0(Block@0)",
		"a NL":                     "Module@0(Block@0(Expr@0(a@0)))",
		"a NL END":                 "Module@0(Block@0(Expr@0(a@0)))",
		"a NL END a a ) END":       "Module@0(Block@0(Expr@0(a@0)))",
		"END DE":                   "Module@0(Block@0)",
		"END END":                  "Module@0(Block@0)",
		"a":                        "fault 106 0",
		"a =":                      "fault 106 10",
		"a = b":                    "fault 106 20",
		"a END":                    "fault 106 10",
		"a END NL":                 "fault 106 10",
		"a = END b NL":             "fault 106 20",
		"if a : NL IN b NL":        "fault 106 60",
		"if a : NL IN b NL END DE": "fault 106 70",
		"if a : NL":                "fault 106 30",
		"if a : NL IN DE":          "fault 106 50",
		"if a : NL IN END":         "fault 106 50",
		"NL":                       "fault 106 0",
		"a NL NL":                  "fault 106 20",
		"DE":                       "fault 106 0",
		"IN a NL DE":               "fault 106 0",
		"a NL IN b NL DE":          "fault 106 20",
		"a NL DE":                  "fault 106 20",
		"pass DE":                  "fault 106 10",
		"f ( k":                    "fault 106 20",
		"a is":                     "fault 106 10",
		"a not":                    "fault 106 10",
	} {
		list := tokens(text)
		if got := said(parser.Parse(list)); got != want {
			t.Errorf("P15.1: %q is\n%s, not\n%s", text, got, want)
		}
		agree(t, list)
	}
	if got := said(parser.Parse(nil)); got != "Module@0(Block@0)" {
		t.Errorf("P15.1: no tokens: %s", got)
	}
	if got := said(parser.Parse([]api.Token{})); got != "Module@0(Block@0)" {
		t.Errorf("P15.1: no tokens: %s", got)
	}
	if got := said(parser.Parse([]api.Token{{Kind: 5, Text: "(", At: -7}})); got != "fault 106 -7" {
		t.Errorf("P15.1: a place below 0: %s", got)
	}
}

// TestP15_1Kinds: a text is a word or a sign by its token's kind alone; the
// Texts of NEWLINE, INDENT, DEDENT, END are not looked at.
func TestP15_1Kinds(t *testing.T) {
	for _, src := range samples {
		list := lexed(t, src)
		for i, x := range list {
			for kind := range 11 {
				list[i].Kind = kind
				agree(t, list)
			}
			list[i] = x
			if x.Kind >= 6 {
				list[i].Text = "if"
				if _, f := agree(t, list); f != (api.Fault{}) {
					t.Errorf("P15.1: %q, with a text at %d: %v", src, i, f)
				}
				list[i] = x
			}
		}
	}
	hold(t, "P15.1", map[string]string{
		"f('=', k='=')": `Expr(Call(f, "=", Keyword k("=")))`,
		"a '='":         "fault 106 2",
		"'not' in a":    `Expr(Compare in("not", a))`,
		"'(' + ')'":     `Expr(Binary +("(", ")"))`,
	}, statement)
}

func TestP15_1OneWay(t *testing.T) {
	hold(t, "P15.1", map[string]string{
		// a NAME with a `=` behind it
		"f(k=1)":               "Expr(Call(f, Keyword k(1)))",
		"f(k)":                 "Expr(Call(f, k))",
		"f(k==1)":              "Expr(Call(f, Compare ==(k, 1)))",
		"f(a, k=l)":            "Expr(Call(f, a, Keyword k(l)))",
		"f((k)=1)":             "fault 106 5",
		"f(k.l=1)":             "fault 106 5",
		"f(1=1)":               "fault 106 3",
		"f(None=1)":            "fault 106 6",
		"f(a, 'k'=1)":          "fault 106 8",
		"f(k=)":                "fault 106 4",
		"f(k=l=1)":             "fault 106 5",
		"f(**k=1)":             "fault 106 5",
		"(k=1)":                "fault 106 2",
		"[k=1]":                "fault 106 2",
		"a[k=1]":               "fault 106 3",
		"{k=1}":                "fault 106 2",
		"return k=1":           "fault 106 8",
		"f((k=1))":             "fault 106 4",
		"k=1":                  "Assign(k, 1)",
		"def f(k=1):\n pass":   "Def f(Param k(1), Block(Pass))",
		"class A(k=1):\n pass": "fault 106 9",
		// not, in, is
		"a not in b":      "Expr(Compare not in(a, b))",
		"a is not b":      "Expr(Compare is not(a, b))",
		"a is b":          "Expr(Compare is(a, b))",
		"a in b":          "Expr(Compare in(a, b))",
		"not a":           "Expr(Not(a))",
		"not a in b":      "Expr(Not(Compare in(a, b)))",
		"not a not in b":  "Expr(Not(Compare not in(a, b)))",
		"not a is not b":  "Expr(Not(Compare is not(a, b)))",
		"a is (not b)":    "Expr(Compare is(a, Not(b)))",
		"a not b":         "fault 106 6",
		"a not not in b":  "fault 106 6",
		"a is not not b":  "fault 106 9",
		"a is not in b":   "fault 106 9",
		"a in not b":      "fault 106 5",
		"a == not b":      "fault 106 5",
		"a + not b":       "fault 106 4",
		"- not a":         "fault 106 2",
		"a not":           "fault 106 5",
		"a is":            "fault 106 4",
		"a is is b":       "fault 106 5",
		"not":             "fault 106 3",
		"a not is b":      "fault 106 6",
		"a or not b":      "Expr(Or(a, Not(b)))",
		"a not in b in c": "fault 106 11",
		"a == b != c":     "fault 106 7",
		"a is b is not c": "fault 106 7",
		"a < b not in c":  "fault 106 6",
		"(a < b) < c":     "Expr(Compare <(Compare <(a, b), c))",
		// a `,`
		"a, not b":             "Expr(Tuple(a, Not(b)))",
		"a, -b":                "Expr(Tuple(a, Negative(b)))",
		"a,,":                  "fault 106 2",
		"a, in b":              "fault 106 3",
		"a, if b":              "fault 106 3",
		"a, **b":               "fault 106 3",
		"[a, **b]":             "fault 106 4",
		"[,]":                  "fault 106 1",
		"(,)":                  "fault 106 1",
		"{,}":                  "fault 106 1",
		"f(,)":                 "fault 106 2",
		"a[,]":                 "fault 106 2",
		"a[]":                  "fault 106 2",
		"[a,,]":                "fault 106 3",
		"(a,,)":                "fault 106 3",
		"f(a,,)":               "fault 106 4",
		"{a,,}":                "fault 106 3",
		"{a: b,,}":             "fault 106 6",
		"def f(,):\n pass":     "fault 106 6",
		"def f(a,,):\n pass":   "fault 106 8",
		"def f(**a,,):\n pass": "fault 106 10",
		"global a, b,":         "fault 106 12",
		"nonlocal a, 1":        "fault 106 12",
		"for a, in b:\n pass":  "fault 106 7",
		"[a for b, in c]":      "fault 106 10",
		"raise a, b":           "fault 106 7",
		"del a, b":             "fault 106 5",
		"if a, b:\n c":         "fault 106 4",
		"while a,:\n b":        "fault 106 7",
		"except a:\n b":        "fault 106 0",
		// brackets
		"{a: b, c}":                  "fault 106 8",
		"{a, b: c}":                  "fault 106 5",
		"{**a, b}":                   "fault 106 7",
		"{**a: b}":                   "fault 106 4",
		"{**a for b in c}":           "fault 106 5",
		"{a, **b}":                   "fault 106 4",
		"{a: **b}":                   "fault 106 4",
		"{a: b, c for d in e}":       "fault 106 9",
		"{a: b, c: d for e in f}":    "fault 106 12",
		"{a, b for c in d}":          "fault 106 6",
		"{a:}":                       "fault 106 3",
		"[a, b for c in d]":          "fault 106 6",
		"[a: b]":                     "fault 106 2",
		"(a for b in c)":             "fault 106 3",
		"f(a for b in c)":            "fault 106 4",
		"(a: b)":                     "fault 106 2",
		"(**a)":                      "fault 106 1",
		"[**a]":                      "fault 106 1",
		"[a for b in c if d else e]": "fault 106 19",
		"[a for b in c, d]":          "fault 106 13",
		"[a for b in c for d in e]":  "fault 106 14",
		"[a for b in c if d, e]":     "fault 106 18",
		"[a for b]":                  "fault 106 8",
		"[for a in b]":               "fault 106 1",
		"(a]":                        "fault 106 2",
		"a)":                         "fault 106 1",
		"[(a]":                       "fault 106 3",
		"a if b":                     "fault 106 6",
		"a if b, c":                  "fault 106 6",
		"a if b else":                "fault 106 11",
		"(a if b)":                   "fault 106 7",
		"a if b if c else d else e":  "fault 106 7",
		"a.1":                        "fault 106 2",
		"a.if":                       "fault 106 2",
		"a.(b)":                      "fault 106 2",
		"a b":                        "fault 106 2",
		"a 1":                        "fault 106 2",
		"1 'a'":                      "fault 106 2",
		"'a' 'b'":                    "fault 106 4",
		// statements
		"a = b = c":                         "fault 106 6",
		"a += b = c":                        "fault 106 7",
		"a = b += c":                        "fault 106 6",
		"a, b = c, d = e":                   "fault 106 12",
		"a **= b":                           "fault 106 2",
		"= a":                               "fault 106 0",
		"+a":                                "fault 106 0",
		"pass a":                            "fault 106 5",
		"return pass":                       "fault 106 7",
		"return return":                     "fault 106 7",
		"a = pass":                          "fault 106 4",
		"if a: b":                           "fault 106 6",
		"if a:\nb":                          "fault 106 6",
		"if a\n b":                          "fault 106 4",
		"if:\n a":                           "fault 106 2",
		"else:\n a":                         "fault 106 0",
		"elif a:\n b":                       "fault 106 0",
		"if a:\n b\nelse c:\n d":            "fault 106 14",
		"if a:\n b\nelse:\n c\nelse:\n d":   "fault 106 18",
		"if a:\n b\nelse:\n c\nelif d:\n e": "fault 106 18",
		"while a:\n b\nelse:\n c":           "fault 106 12",
		"for a in b:\n c\nelse:\n d":        "fault 106 15",
		"for in a:\n b":                     "fault 106 4",
		"for a in:\n b":                     "fault 106 8",
		"for a b in c:\n d":                 "fault 106 6",
		"for not a in b:\n c":               "fault 106 4",
		"for -a in b:\n c":                  "fault 106 4",
		"def f:\n pass":                     "fault 106 5",
		"def f(a:\n pass":                   "fault 106 7",
		"def if():\n pass":                  "fault 106 4",
		"def f(a b):\n pass":                "fault 106 8",
		"def f(1):\n pass":                  "fault 106 6",
		"def f(a.b):\n pass":                "fault 106 7",
		"def f(a=):\n pass":                 "fault 106 8",
		"def f(**a=1):\n pass":              "fault 106 9",
		"def f(**a, b):\n pass":             "fault 106 11",
		"def f(**a, **b):\n pass":           "fault 106 11",
		"def f(**):\n pass":                 "fault 106 8",
		"def f(*a):\n pass":                 "fault 106 6",
		"class A():\n pass":                 "fault 106 8",
		"class A(B, C):\n pass":             "fault 106 9",
		"class A(B,):\n pass":               "fault 106 9",
		"class 1:\n pass":                   "fault 106 6",
		"try:\n a":                          "fault 106 7",
		"try:\n a\nb":                       "fault 106 8",
		"try:\n a\nelse:\n b":               "fault 106 8",
		"try a:\n b":                        "fault 106 4",
		"try:\n a\nexcept as b:\n c":        "fault 106 15",
		"try:\n a\nexcept B as:\n c":        "fault 106 19",
		"try:\n a\nexcept B as 1:\n c":      "fault 106 20",
		"try:\n a\nexcept B as c.d:\n e":    "fault 106 21",
		"try:\n a\nexcept B, C:\n d":        "fault 106 16",
		"global":                            "fault 106 6",
		"global 1":                          "fault 106 7",
		"global a.b":                        "fault 106 8",
		"global a b":                        "fault 106 9",
		"del":                               "fault 106 3",
		"del -a":                            "fault 106 4",
		"del not a":                         "fault 106 4",
	}, statement)
}

func TestP15_2Trees(t *testing.T) {
	hold(t, "P15.2", map[string]string{
		// exprs, brackets
		"a":                           "Expr(a)",
		"a,":                          "Expr(Tuple(a))",
		"a, b":                        "Expr(Tuple(a, b))",
		"a, b, c,":                    "Expr(Tuple(a, b, c))",
		"(a)":                         "Expr(a)",
		"((a, b))":                    "Expr(Tuple(a, b))",
		"(a), (b)":                    "Expr(Tuple(a, b))",
		"(a, b), c":                   "Expr(Tuple(Tuple(a, b), c))",
		"()":                          "Expr(Tuple)",
		"(a,)":                        "Expr(Tuple(a))",
		"(a, b,)":                     "Expr(Tuple(a, b))",
		"[]":                          "Expr(List)",
		"[a,]":                        "Expr(List(a))",
		"[a, b]":                      "Expr(List(a, b))",
		"[(a, b)]":                    "Expr(List(Tuple(a, b)))",
		"{}":                          "Expr(Dict)",
		"{a}":                         "Expr(Set(a))",
		"{a, b,}":                     "Expr(Set(a, b))",
		"{a: b}":                      "Expr(Dict(Pair(a, b)))",
		"{a: b, **c, d: e,}":          "Expr(Dict(Pair(a, b), Spread(c), Pair(d, e)))",
		"{**a, **b}":                  "Expr(Dict(Spread(a), Spread(b)))",
		"{**a, b: c}":                 "Expr(Dict(Spread(a), Pair(b, c)))",
		"{a for b in c}":              "Expr(SetComp(a, b, c))",
		"{a: b for c in d}":           "Expr(DictComp(Pair(a, b), c, d))",
		"[a for b in c]":              "Expr(ListComp(a, b, c))",
		"[a for b, c in d if e if f]": "Expr(ListComp(a, Targets(b, c), d, e, f))",
		"[a if b else c for d in e or f if not g]":      "Expr(ListComp(Choose(a, b, c), d, Or(e, f), Not(g)))",
		"[(a if b else c) for d[e] in (f if g else h)]": "Expr(ListComp(Choose(a, b, c), Index(d, e), Choose(f, g, h)))",
		// operators
		"a - b - c":                    "Expr(Binary -(Binary -(a, b), c))",
		"a - (b - c)":                  "Expr(Binary -(a, Binary -(b, c)))",
		"a - b + c - d":                "Expr(Binary -(Binary +(Binary -(a, b), c), d))",
		"a // b * c % d":               "Expr(Binary %(Binary *(Binary //(a, b), c), d))",
		"a * b + c * d":                "Expr(Binary +(Binary *(a, b), Binary *(c, d)))",
		"a + b * c - d":                "Expr(Binary -(Binary +(a, Binary *(b, c)), d))",
		"a | b | c":                    "Expr(Binary |(Binary |(a, b), c))",
		"a ^ b ^ c":                    "Expr(Binary ^(Binary ^(a, b), c))",
		"a & b & c":                    "Expr(Binary &(Binary &(a, b), c))",
		"a | b ^ c & d + e":            "Expr(Binary |(a, Binary ^(b, Binary &(c, Binary +(d, e)))))",
		"a + b & c ^ d | e":            "Expr(Binary |(Binary ^(Binary &(Binary +(a, b), c), d), e))",
		"a or b or c":                  "Expr(Or(Or(a, b), c))",
		"a and b and c":                "Expr(And(And(a, b), c))",
		"a or b and c or d":            "Expr(Or(Or(a, And(b, c)), d))",
		"a and b or c and d":           "Expr(Or(And(a, b), And(c, d)))",
		"not a and not b":              "Expr(And(Not(a), Not(b)))",
		"not not a or b":               "Expr(Or(Not(Not(a)), b))",
		"not a == b":                   "Expr(Not(Compare ==(a, b)))",
		"a | b == c ^ d":               "Expr(Compare ==(Binary |(a, b), Binary ^(c, d)))",
		"a < b and c >= d":             "Expr(And(Compare <(a, b), Compare >=(c, d)))",
		"- - a":                        "Expr(Negative(Negative(a)))",
		"-a * -b":                      "Expr(Binary *(Negative(a), Negative(b)))",
		"a - -b":                       "Expr(Binary -(a, Negative(b)))",
		"-a.b":                         "Expr(Negative(Attr b(a)))",
		"-a + b":                       "Expr(Binary +(Negative(a), b))",
		"-1":                           "Expr(Negative(1))",
		"a if b else c":                "Expr(Choose(a, b, c))",
		"a or b if c or d else e or f": "Expr(Choose(Or(a, b), Or(c, d), Or(e, f)))",
		"a if b else c, d":             "Expr(Tuple(Choose(a, b, c), d))",
		"(a if b else c) if d else e":  "Expr(Choose(Choose(a, b, c), d, e))",
		"a if (b if c else d) else e":  "Expr(Choose(a, Choose(b, c, d), e))",
		// postfix
		"a.b.c":                             "Expr(Attr c(Attr b(a)))",
		"a[b][c]":                           "Expr(Index(Index(a, b), c))",
		"a[b, c]":                           "Expr(Index(a, Tuple(b, c)))",
		"a[b,]":                             "Expr(Index(a, Tuple(b)))",
		"a[(b, c)]":                         "Expr(Index(a, Tuple(b, c)))",
		"a[[b]]":                            "Expr(Index(a, List(b)))",
		"f()()":                             "Expr(Call(Call(f)))",
		"f(a)(b).c[d]":                      "Expr(Index(Attr c(Call(Call(f, a), b)), d))",
		"f(a, (b, c))":                      "Expr(Call(f, a, Tuple(b, c)))",
		"f(k=a, l=b)":                       "Expr(Call(f, Keyword k(a), Keyword l(b)))",
		"f(k=a, k=b)":                       "Expr(Call(f, Keyword k(a), Keyword k(b)))",
		"f(a, b, **c,)":                     "Expr(Call(f, a, b, Spread(c)))",
		"f(a if b else c, k=d if e else f)": "Expr(Call(f, Choose(a, b, c), Keyword k(Choose(d, e, f))))",
		"5 .x":                              "Expr(Attr x(5))",
		"5(a)":                              "Expr(Call(5, a))",
		"'a'[0]":                            `Expr(Index("a", 0))`,
		"None.a":                            "Expr(Attr a(Const None))",
		"[a][0]":                            "Expr(Index(List(a), 0))",
		"True":                              "Expr(Const True)",
		"False":                             "Expr(Const False)",
		// statements
		"a = b":                               "Assign(a, b)",
		"a = b, c":                            "Assign(a, Tuple(b, c))",
		"a = b,":                              "Assign(a, Tuple(b))",
		"a, b = c":                            "Unpack(Targets(a, b), c)",
		"a, b, = c":                           "Unpack(Targets(a, b), c)",
		"(a, b) = c":                          "Unpack(Targets(a, b), c)",
		"((a), (b)) = c":                      "Unpack(Targets(a, b), c)",
		"a.b, c[d], e = f,":                   "Unpack(Targets(Attr b(a), Index(c, d), e), Tuple(f))",
		"f(a).b = c":                          "Assign(Attr b(Call(f, a)), c)",
		"a //= b, c":                          "Augment //(a, Tuple(b, c))",
		"(a) |= b":                            "Augment |(a, b)",
		"a.b ^= c":                            "Augment ^(Attr b(a), c)",
		"return":                              "Return(None)",
		"return a":                            "Return(a)",
		"return a,":                           "Return(Tuple(a))",
		"return ()":                           "Return(Tuple)",
		"raise":                               "Raise(None)",
		"raise a or b":                        "Raise(Or(a, b))",
		"raise (a, b)":                        "Raise(Tuple(a, b))",
		"global a":                            "Global(a)",
		"nonlocal a, b, a":                    "Nonlocal(a, b, a)",
		"del (a)":                             "Del(a)",
		"del f().a":                           "Del(Attr a(Call(f)))",
		"if a:\n b":                           "If(a, Block(Expr(b)), None)",
		"if a:\n b\nelse:\n c\n d":            "If(a, Block(Expr(b)), Block(Expr(c), Expr(d)))",
		"if a:\n b\nelif c:\n d":              "If(a, Block(Expr(b)), Block(If(c, Block(Expr(d)), None)))",
		"if a:\n b\nelif c:\n d\nelse:\n e":   "If(a, Block(Expr(b)), Block(If(c, Block(Expr(d)), Block(Expr(e)))))",
		"if a:\n b\nelif c:\n d\nelif e:\n f": "If(a, Block(Expr(b)), Block(If(c, Block(Expr(d)), Block(If(e, Block(Expr(f)), None)))))",
		"if a:\n b\nelif c:\n d\nelif e:\n f\nelse:\n g":           "If(a, Block(Expr(b)), Block(If(c, Block(Expr(d)), Block(If(e, Block(Expr(f)), Block(Expr(g)))))))",
		"if a:\n if b:\n  c\n elif d:\n  e\nelse:\n f":             "If(a, Block(If(b, Block(Expr(c)), Block(If(d, Block(Expr(e)), None)))), Block(Expr(f)))",
		"while a if b else c:\n d":                                 "While(Choose(a, b, c), Block(Expr(d)))",
		"for a in b:\n c":                                          "For(a, b, Block(Expr(c)))",
		"for a, b in c, d:\n e":                                    "For(Targets(a, b), Tuple(c, d), Block(Expr(e)))",
		"for a.b in c,:\n d":                                       "For(Attr b(a), Tuple(c), Block(Expr(d)))",
		"for a in b in c:\n d":                                     "For(a, Compare in(b, c), Block(Expr(d)))",
		"for (a), (b[c]) in d:\n e":                                "For(Targets(a, Index(b, c)), d, Block(Expr(e)))",
		"def f():\n pass":                                          "Def f(Block(Pass))",
		"def f(a, b):\n pass":                                      "Def f(Param a(None), Param b(None), Block(Pass))",
		"def f(a, b=c or d, **e):\n pass\n pass":                   "Def f(Param a(None), Param b(Or(c, d)), Param e, Block(Pass, Pass))",
		"def f(a, a):\n pass":                                      "Def f(Param a(None), Param a(None), Block(Pass))",
		"class A:\n pass":                                          "Class A(None, Block(Pass))",
		"class A(b.C):\n pass":                                     "Class A(Attr C(b), Block(Pass))",
		"class A((b, c)):\n pass":                                  "Class A(Tuple(b, c), Block(Pass))",
		"try:\n a\nexcept:\n b":                                    "Try(Block(Expr(a)), Except(None, Block(Expr(b))))",
		"try:\n a\nexcept B as c:\n d\nexcept E:\n f\nexcept:\n g": "Try(Block(Expr(a)), Except c(B, Block(Expr(d))), Except(E, Block(Expr(f))), Except(None, Block(Expr(g))))",
		"try:\n a\nexcept (B, C):\n d":                             "Try(Block(Expr(a)), Except(Tuple(B, C), Block(Expr(d))))",
	}, statement)
}

func TestP15_2Places(t *testing.T) {
	hold(t, "P15.2", map[string]string{
		"":                      "Module@0(Block@0)",
		"\n# x\n\na":            "Module@0(Block@6(Expr@6(a@6)))",
		"  \na\nb":              "Module@0(Block@3(Expr@3(a@3), Expr@5(b@5)))",
		"(a)":                   "Module@0(Block@0(Expr@0(a@1)))",
		"((a))":                 "Module@0(Block@0(Expr@0(a@2)))",
		"x = (a), b":            "Module@0(Block@0(Assign@0(x@0, Tuple@5(a@5, b@9))))",
		"(a), b = c":            "Module@0(Block@0(Unpack@0(Targets@1(a@1, b@5), c@9)))",
		"(a, b) = c":            "Module@0(Block@0(Unpack@0(Targets@0(a@1, b@4), c@9)))",
		"((a), b) = c":          "Module@0(Block@0(Unpack@0(Targets@0(a@2, b@6), c@11)))",
		"(a).x += (b)":          "Module@0(Block@0(Augment +@0(Attr x@1(a@1), b@10)))",
		"del (a).b":             "Module@0(Block@0(Del@0(Attr b@5(a@5))))",
		"pass\nbreak\ncontinue": "Module@0(Block@0(Pass@0, Break@5, Continue@11))",
		"return\nreturn (a), b\nraise\nraise (a)":                    "Module@0(Block@0(Return@0(None@0), Return@7(Tuple@15(a@15, b@19)), Raise@21(None@21), Raise@27(a@34)))",
		"global a,  b\nnonlocal c":                                   "Module@0(Block@0(Global@0(a@7, b@11), Nonlocal@13(c@22)))",
		"if (a):\n (b)\nelse:\n c":                                   "Module@0(Block@0(If@0(a@4, Block@9(Expr@9(b@10)), Block@20(Expr@20(c@20)))))",
		"if a:\n b\nelif c:\n d\nelse:\n e":                          "Module@0(Block@0(If@0(a@3, Block@7(Expr@7(b@7)), Block@9(If@9(c@14, Block@18(Expr@18(d@18)), Block@27(Expr@27(e@27)))))))",
		"if a:\n b\nelif c:\n d\nelif (e):\n f":                      "Module@0(Block@0(If@0(a@3, Block@7(Expr@7(b@7)), Block@9(If@9(c@14, Block@18(Expr@18(d@18)), Block@20(If@20(e@26, Block@31(Expr@31(f@31)), None@20)))))))",
		"while (a):\n b":                                             "Module@0(Block@0(While@0(a@7, Block@12(Expr@12(b@12)))))",
		"for (a) in (b):\n c":                                        "Module@0(Block@0(For@0(a@5, b@12, Block@17(Expr@17(c@17)))))",
		"for (a), b in (c), d:\n e":                                  "Module@0(Block@0(For@0(Targets@5(a@5, b@9), Tuple@15(c@15, d@19), Block@23(Expr@23(e@23)))))",
		"def f(a, b=(1), **c):\n pass":                               "Module@0(Block@0(Def f@0(Param a@6(None@6), Param b@9(1@12), Param c@16, Block@23(Pass@23))))",
		"class A:\n pass\nclass B((C)):\n pass":                      "Module@0(Block@0(Class A@0(None@0, Block@10(Pass@10)), Class B@15(C@24, Block@30(Pass@30))))",
		"try:\n a\nexcept (A):\n b\nexcept B as c:\n d\nexcept:\n e": "Module@0(Block@0(Try@0(Block@6(Expr@6(a@6)), Except@8(A@16, Block@21(Expr@21(b@21))), Except c@23(B@30, Block@39(Expr@39(d@39))), Except@41(None@41, Block@50(Expr@50(e@50))))))",
		"5\n's'\nNone\nTrue\nFalse":                                  "Module@0(Block@0(Expr@0(5@0), Expr@2(\"s\"@2), Expr@6(Const None@6), Expr@11(Const True@11), Expr@16(Const False@16)))",
		"( )\n((a),)\n[ ]\n[(a)]\n{ }\n{(a)}\n{(a): (b)}\n{ **(a)}":  "Module@0(Block@0(Expr@0(Tuple@0), Expr@4(Tuple@4(a@6)), Expr@11(List@11), Expr@15(List@15(a@17)), Expr@21(Dict@21), Expr@25(Set@25(a@27)), Expr@31(Dict@31(Pair@33(a@33, b@38))), Expr@42(Dict@42(Spread@44(a@47)))))",
		"[(a) for (b) in (c) if (d)]":                                "Module@0(Block@0(Expr@0(ListComp@0(a@2, b@10, c@17, d@24))))",
		"{(a) for (b), c in (d)}":                                    "Module@0(Block@0(Expr@0(SetComp@0(a@2, Targets@10(b@10, c@14), d@20))))",
		"{(a): b for c in d}":                                        "Module@0(Block@0(Expr@0(DictComp@0(Pair@2(a@2, b@6), c@12, d@17))))",
		"(a) if (b) else (c)":                                        "Module@0(Block@0(Expr@0(Choose@1(a@1, b@8, c@17))))",
		"(a) or b":                                                   "Module@0(Block@0(Expr@0(Or@1(a@1, b@7))))",
		"(a) and b":                                                  "Module@0(Block@0(Expr@0(And@1(a@1, b@8))))",
		"not (a)":                                                    "Module@0(Block@0(Expr@0(Not@0(a@5))))",
		"- (a)":                                                      "Module@0(Block@0(Expr@0(Negative@0(a@3))))",
		"(a) not in (b)":                                             "Module@0(Block@0(Expr@0(Compare not in@1(a@1, b@12))))",
		"(a) + (b) * (c)":                                            "Module@0(Block@0(Expr@0(Binary +@1(a@1, Binary *@7(b@7, c@13)))))",
		"- -a":                                                       "Module@0(Block@0(Expr@0(Negative@0(Negative@2(a@3)))))",
		"not not a":                                                  "Module@0(Block@0(Expr@0(Not@0(Not@4(a@8)))))",
		"(f)((a), k=(b), **(c))":                                     "Module@0(Block@0(Expr@0(Call@1(f@1, a@5, Keyword k@9(b@12), Spread@16(c@19)))))",
		"(a).b":                                                      "Module@0(Block@0(Expr@0(Attr b@1(a@1))))",
		"(a)[(b)]":                                                   "Module@0(Block@0(Expr@0(Index@1(a@1, b@5))))",
		"(a)[(b), c]":                                                "Module@0(Block@0(Expr@0(Index@1(a@1, Tuple@5(b@5, c@9)))))",
		"a.b.c[d](e)":                                                "Module@0(Block@0(Expr@0(Call@0(Index@0(Attr c@0(Attr b@0(a@0)), d@6), e@9))))",
	}, func(src string) string { return said(parser.Source([]byte(src))) })
}

func TestP15_3Targets(t *testing.T) {
	rows := map[string]string{
		"()=a":                    "fault 108 0",
		"a, 1 = b":                "fault 108 0",
		"(a, 1) = b":              "fault 108 0",
		"(a), 1 = b":              "fault 108 1",
		"(a,) = b":                "fault 108 0",
		"a, (b, c) = d":           "fault 108 0",
		"(a, b), c = d":           "fault 108 0",
		"a, b() = c":              "fault 108 0",
		"(f()) = a":               "fault 108 1",
		"((1)) = a":               "fault 108 2",
		"a, b += c":               "fault 108 0",
		"(a, b) += c":             "fault 108 0",
		"a, += c":                 "fault 108 0",
		"(a), b += c":             "fault 108 1",
		"(1) += a":                "fault 108 1",
		"for f() in a:\n b":       "fault 108 4",
		"for a, f(), 1 in b:\n c": "fault 108 7",
		"for (a, b) in c:\n d":    "fault 108 4",
		"for a, (f()) in b:\n c":  "fault 108 8",
		"for 1 in a:\n b":         "fault 108 4",
		"for [a] in b:\n c":       "fault 108 4",
		"[a for f() in b]":        "fault 108 7",
		"{a for b, None in c}":    "fault 108 10",
		"{a: b for 'c' in d}":     "fault 108 10",
		"[a for (b, c) in d]":     "fault 108 7",
		"del f()":                 "fault 108 4",
		"del (a, b)":              "fault 108 4",
		"del ()":                  "fault 108 4",
		"del (1)":                 "fault 108 5",
		"del [a]":                 "fault 108 4",
		"if a:\n b\n 1 = c":       "fault 108 10",
		// as soon as the token behind has been looked at, ahead of what follows
		"1 =":                   "fault 108 0",
		"1 = )":                 "fault 108 0",
		"1 = = 2":               "fault 108 0",
		"1 = 2 = 3":             "fault 108 0",
		"f() += ":               "fault 108 0",
		"f() += )":              "fault 108 0",
		"1 = [a for 2 in b]":    "fault 108 0",
		"[a for 2 in b] = 1":    "fault 108 7",
		"del f() a":             "fault 108 4",
		"del f() = a":           "fault 108 4",
		"del f(), a":            "fault 108 4",
		"del f(":                "fault 106 6",
		"del f(a b)":            "fault 106 8",
		"del f() + a":           "fault 108 4",
		"for 1 a":               "fault 108 4",
		"for 1":                 "fault 108 4",
		"for 1, 2":              "fault 108 4",
		"for a, 2)":             "fault 108 7",
		"for f() + a in b:\n c": "fault 108 4",
		"for 1, in b:\n c":      "fault 106 7",
		"for 1, +":              "fault 106 7",
		"for 1, (a b":           "fault 106 10",
		"for 1, -a in b:\n c":   "fault 106 7",
		"for a + 1 in b:\n c":   "fault 106 6",
		"[a for 1]":             "fault 108 7",
		"[a for 1 b":            "fault 108 7",
		"[a for 1, in b]":       "fault 106 10",
		"1 a = b":               "fault 106 2",
		"a + = b":               "fault 106 4",
		"a b = c":               "fault 106 2",
		"1, 2 3":                "fault 106 5",
		"1 == 2":                "Expr(Compare ==(1, 2))",
	}
	for _, sign := range strings.Fields("= += -= *= //= %= &= |= ^=") {
		kind, text := "Augment "+strings.TrimSuffix(sign, "="), "fault 108 0"
		if sign == "=" {
			kind = "Assign"
		}
		for _, left := range []string{"1", "'a'", "None", "True", "False", "()", "(a,)", "a,", "[]", "[a, b]", "{}", "{a}", "{a: b}", "f()", "f(a).b()", "-a", "not a", "a + b", "a * b", "a | b", "a < b", "a in b", "a not in b", "a is b", "a or b", "a and b", "a if b else c", "[a for b in c]", "{a for b in c}", "{a: b for c in d}", "a, 1", "a, b, ()", "a, (b)()", "a, [b]"} {
			rows[left+" "+sign+" x"] = text
		}
		rows["a "+sign+" x"] = kind + "(a, x)"
		rows["a.b "+sign+" x"] = kind + "(Attr b(a), x)"
		rows["f()[b, c] "+sign+" x"] = kind + "(Index(Call(f), Tuple(b, c)), x)"
	}
	hold(t, "P15.3", rows, statement)
}

func TestP15_3Order(t *testing.T) {
	hold(t, "P15.3", map[string]string{
		// params
		"def f(a=1, b):\n pass":         "fault 106 11",
		"def f(a, b=1, c, d=2):\n pass": "fault 106 14",
		"def f(a=1, b=2, c):\n pass":    "fault 106 16",
		"def f(a=1, b c):\n pass":       "fault 106 11",
		"def f(a=1, b 1":                "fault 106 11",
		"def f(a=1, b":                  "fault 106 11",
		"def f(a=1, b, **c):\n pass":    "fault 106 11",
		"def f(a=1, b.c=2):\n pass":     "fault 106 11",
		"def f(a=1, b==2):\n pass":      "fault 106 11",
		"def f(a=1, if):\n pass":        "fault 106 11",
		"def f(a=1, 1):\n pass":         "fault 106 11",
		"def f(a=1, b=):\n pass":        "fault 106 13",
		"def f(a=1 b":                   "fault 106 10",
		"def f(a=1, **b":                "fault 106 14",
		"def f(a=1, **b):\n pass":       "Def f(Param a(1), Param b, Block(Pass))",
		"def f(a, **b):\n pass":         "Def f(Param a(None), Param b, Block(Pass))",
		"def f(a, b=1, c=2):\n pass":    "Def f(Param a(None), Param b(1), Param c(2), Block(Pass))",
		"def f(a=(1, 2), b=3):\n pass":  "Def f(Param a(Tuple(1, 2)), Param b(3), Block(Pass))",
		// excepts
		"try:\n a\nexcept:\n b\nexcept:\n c":                       "fault 106 19",
		"try:\n a\nexcept:\n b\nexcept C:\n d":                     "fault 106 19",
		"try:\n a\nexcept:\n b\nexcept 1 2":                        "fault 106 19",
		"try:\n a\nexcept:\n b\nexcept":                            "fault 106 19",
		"try:\n a\nexcept B:\n c\nexcept:\n d\nexcept E as f:\n g": "fault 106 32",
		"try:\n a\nexcept None:\n b\nexcept C:\n d":                "Try(Block(Expr(a)), Except(Const None, Block(Expr(b))), Except(C, Block(Expr(d))))",
		// args
		"f(k=1, 2)":         "fault 106 7",
		"f(k=1, a)":         "fault 106 7",
		"f(k=1, a, l=2)":    "fault 106 7",
		"f(a, k=1, b)":      "fault 106 10",
		"f(k=1, (a b))":     "fault 106 7",
		"f(k=1, a b":        "fault 106 7",
		"f(k=1, a.b=2)":     "fault 106 7",
		"f(k=1, not a)":     "fault 106 7",
		"f(k=1, -)":         "fault 106 7",
		"f(**a, b)":         "fault 106 7",
		"f(**a, (b c))":     "fault 106 7",
		"f(**a, k=1)":       "fault 106 7",
		"f(**a, k=)":        "fault 106 7",
		"f(**a, **b)":       "fault 106 7",
		"f(**a, **)":        "fault 106 7",
		"f(a, **b, **c)":    "fault 106 10",
		"f(k=1, **b, c)":    "fault 106 12",
		"f(k=1, **b, l=2)":  "fault 106 12",
		"f(k=1, ])":         "fault 106 7",
		"f(k=1 a)":          "fault 106 6",
		"f(a, k=b, **c)":    "Expr(Call(f, a, Keyword k(b), Spread(c)))",
		"f(k=a, **b)":       "Expr(Call(f, Keyword k(a), Spread(b)))",
		"f(a, **b)":         "Expr(Call(f, a, Spread(b)))",
		"f(k=g(a), l=g(b))": "Expr(Call(f, Keyword k(Call(g, a)), Keyword l(Call(g, b))))",
		"f(g(k=a), b)":      "Expr(Call(f, Call(g, Keyword k(a)), b))",
		"f(g(**a), b, **c)": "Expr(Call(f, Call(g, Spread(a)), b, Spread(c)))",
		"f(**a)(b)(k=c)":    "Expr(Call(Call(Call(f, Spread(a)), b), Keyword k(c)))",
	}, statement)
}

func TestP15_4Deep(t *testing.T) {
	for _, row := range []struct {
		name                  string
		ahead, middle, behind string // tokens; those ahead and behind come many times
		rest                  string
		others, each          int // nodes within one another: beside those that come many times, and of each of these
	}{
		{"lists", "[", "a", "]", "NL", 4, 1},
		{"tuples", "(", "a ,", ") ,", "NL", 5, 1},
		{"indexes", "a [", "a", "]", "NL", 4, 1},
		{"calls", "f (", "a", ")", "NL", 4, 1},
		{"keywords", "f ( k =", "a", ")", "NL", 4, 2},
		{"dicts", "{ a :", "a", "}", "NL", 4, 2},
		{"nots", "not", "a", "", "NL", 4, 1},
		{"minuses", "-", "a", "", "NL", 4, 1},
		{"chooses", "a if b else", "a", "", "NL", 4, 1},
		{"sums", "", "a", "+ a", "NL", 4, 1},
		{"ors", "", "a", "or a", "NL", 4, 1},
		{"attrs", "", "a", ". b", "NL", 4, 1},
		{"ifs", "if a : NL IN", "pass NL", "DE", "", 3, 2},
		{"whiles", "while a : NL IN", "pass NL", "DE", "", 3, 2},
		{"defs", "def f ( ) : NL IN", "pass NL", "DE", "", 3, 2},
		{"tries", "try : NL IN", "pass NL", "DE except : NL IN pass NL DE", "", 4, 2},
		{"elifs", "", "if a : NL IN pass NL DE", "elif a : NL IN pass NL DE", "", 5, 2},
		{"brackets", "(", "a", ")", "NL", 4, 0},
	} {
		for _, want := range []int{4, 5, 6, 7, 8, 9, 297, 298, 299, 300, 301, 302, 303} {
			times := (want - row.others) / max(row.each, 1)
			if times < 1 {
				continue
			}
			depth := row.others + times*row.each
			list := tokens(strings.Repeat(row.ahead+" ", times) + row.middle + strings.Repeat(" "+row.behind, times) + " " + row.rest)
			n, f := parser.Parse(list)
			switch {
			case depth <= api.MaxTree && (f != (api.Fault{}) || tree.Depth(n) != depth || tree.Check(n) != api.OK):
				t.Errorf("P15.4: %d %s, of depth %d: depth %d, %v", times, row.name, depth, tree.Depth(n), f)
			case depth > api.MaxTree && f.Code != api.FaultDeep:
				t.Errorf("P15.4: %d %s, of depth %d: %v", times, row.name, depth, f)
			}
			// another fault comes ahead of it, wherever it stands
			if _, f := parser.Parse(append(list, tokens("1 = a NL")...)); f != (api.Fault{Code: api.FaultTarget}) {
				t.Errorf("P15.4: %d %s, and what is no target: %v", times, row.name, f)
			}
			if _, f := parser.Parse(append(list, tokens("a )")...)); f != (api.Fault{Code: api.FaultSyntax, At: 10}) {
				t.Errorf("P15.4: %d %s, and a token too many: %v", times, row.name, f)
			}
		}
	}
}

// TestP15_4Nones: what is missing is a node, too; the first one in the order
// of All is told.
func TestP15_4Nones(t *testing.T) {
	within := func(ifs int, text string) string {
		return strings.Repeat("if a : NL IN ", ifs) + text + strings.Repeat(" DE", ifs)
	}
	odd := func(ifs int, text string) string {
		return "try : NL IN pass NL DE except : NL IN " + within(ifs, text) + " DE"
	}
	for text, want := range map[string]api.Fault{
		odd(147, "pass NL"):                                             {},
		odd(147, "return NL"):                                           {Code: 107, At: 10 * (11 + 147*5)},
		odd(147, "raise NL"):                                            {Code: 107, At: 10 * (11 + 147*5)},
		odd(146, "return NL"):                                           {},
		within(149, "pass NL"):                                          {Code: 107, At: 10 * 149 * 5},
		within(148, "pass NL"):                                          {},
		within(147, "def f ( a ) : NL IN pass NL DE"):                   {},
		within(148, "def f ( a ) : NL IN pass NL DE"):                   {Code: 107, At: 10 * (148*5 + 3)},
		within(148, "def f ( ** a ) : NL IN pass NL DE"):                {Code: 107, At: 10 * (148*5 + 9)},
		within(148, "class A : NL IN pass NL DE"):                       {Code: 107, At: 10 * (148*5 + 5)},
		odd(147, "class A : NL IN pass NL DE"):                          {Code: 107, At: 10 * (11 + 147*5)},
		odd(147, "if b : NL IN pass NL DE"):                             {Code: 107, At: 10 * (11 + 147*5 + 1)},
		within(148, "try : NL IN pass NL DE except : NL IN pass NL DE"): {Code: 107, At: 10 * (148*5 + 4)},
		odd(146, "try : NL IN pass NL DE except : NL IN pass NL DE"):    {Code: 107, At: 10 * (11 + 146*5 + 11)},
	} {
		list := tokens(text)
		if _, f := parser.Parse(list); f != want {
			t.Errorf("P15.4: %q: %v, not %v", strings.ReplaceAll(text, "if a : NL IN ", "~"), f, want)
		}
	}
}

func TestP15_4First(t *testing.T) {
	many := func(n int, text string) string { return strings.Repeat(text, n) }
	for src, want := range map[string]api.Fault{
		many(296, "not ") + "a":                           {},
		many(297, "not ") + "a":                           {Code: 107, At: 4 * 297},
		many(298, "not ") + "a":                           {Code: 107, At: 4 * 297},
		many(5000, "not ") + "a":                          {Code: 107, At: 4 * 297},
		many(20000, "-") + "a":                            {Code: 107, At: 297},
		many(295, "not ") + "-a":                          {},
		many(296, "not ") + "-a":                          {Code: 107, At: 4*296 + 1},
		"(a)" + many(296, " + b"):                         {},
		"(a)" + many(297, " + b"):                         {Code: 107, At: 1},
		"(a)" + many(9000, " + b"):                        {Code: 107, At: 1},
		"a + b" + many(296, "[c]"):                        {Code: 107, At: 4},
		"[" + many(295, "not ") + "a, b]":                 {},
		"[b, " + many(296, "not ") + "a]":                 {Code: 107, At: 4 + 4*296},
		"b\n" + many(297, "not ") + "a":                   {Code: 107, At: 2 + 4*297},
		many(300, "- ") + "a\n" + many(300, "not ") + "a": {Code: 107, At: 2 * 297},
		"a = " + many(296, "-") + "b":                     {},
		"a = " + many(297, "-") + "b":                     {Code: 107, At: 4 + 297},
		many(297, "-") + "b = a":                          {Code: 108, At: 0},
		many(297, "-") + "b b":                            {Code: 106, At: 299},
		many(1000, "-") + "b\n1 = a":                      {Code: 108, At: 1002},
		many(1000, "-") + "b\n)":                          {Code: 106, At: 1002},
	} {
		n, f := parser.Source([]byte(src))
		if f != want {
			t.Errorf("P15.4: %.20q.. of %d bytes: %v, not %v", src, len(src), f, want)
		}
		if f == (api.Fault{}) && tree.Check(n) != api.OK {
			t.Errorf("P15.4: %.20q.. of %d bytes: no tree", src, len(src))
		}
	}
}

func TestP15_5(t *testing.T) {
	for _, bad := range nowhere() {
		bad.At = 777
		for _, around := range []string{"%", "% NL", "( % ) NL", "a = % NL", "f ( % ) NL", "f ( % = a ) NL", "f ( k = % ) NL", "a . % NL", "a [ % ] NL", "return % NL", "- % NL", "not % NL", "a + % NL", "a , % NL", "{ % } NL", "{ a : % } NL", "{ ** % } NL", "[ a for % in b ] NL", "for % in a : NL IN pass NL DE", "global % NL", "global a , % NL", "def % ( ) : NL IN pass NL DE", "def f ( % ) : NL IN pass NL DE", "def f ( a , % ) : NL IN pass NL DE", "def f ( ** % ) : NL IN pass NL DE", "def f ( a = % ) : NL IN pass NL DE", "class % : NL IN pass NL DE", "class A ( % ) : NL IN pass NL DE", "try : NL IN a NL DE except % : NL IN b NL DE", "try : NL IN a NL DE except B as % : NL IN b NL DE", "del % NL", "raise % NL", "if % : NL IN a NL DE", "a % NL", "a NL %", "if a % NL IN b NL DE", "if a : % IN b NL DE", "if a : NL % b NL DE", "if a : NL IN b NL %", "a is % NL", "a not % b NL"} {
			list := tokens(around)
			for i, x := range list {
				if x.Kind == 5 && x.Text == "%" {
					list[i] = bad
				}
			}
			if got := said(parser.Parse(list)); got != "fault 106 777" {
				t.Errorf("P15.5: %s in %q: %s", inWords([]api.Token{bad}), around, got)
			}
			agree(t, list)
		}
	}
	// behind what is no target it is the token behind
	for _, around := range []string{"del f ( ) %", "for 1 % a", "[ a for 1 , 2 %", "1 = %", "1 += %"} {
		list := tokens(around)
		for i, x := range list {
			if x.Text == "%" {
				list[i] = api.Token{Kind: api.TokenInt, Text: "07", At: 777}
			}
		}
		if _, f := agree(t, list); f.Code != api.FaultTarget {
			t.Errorf("P15.5, P15.3: %q: %v", around, f)
		}
	}
}

func TestP15_5Taken(t *testing.T) {
	most := strings.Repeat("9", 2466) // of 256 words
	for _, text := range []string{"0", "1", "4294967295", "4294967296", "18446744073709551615", "18446744073709551616", strings.Repeat("7", 1000), strings.Repeat("7", 1001), most} {
		n, f := parser.Parse([]api.Token{{Kind: api.TokenInt, Text: text, At: 5}, {Kind: api.TokenNewline, At: 6}})
		if f != (api.Fault{}) {
			t.Errorf("P15.5: an INT of %d digits: %v", len(text), f)
			continue
		}
		want := leaf("Int", 5, "")
		want.Num = numberOf(text)
		if got := n.Kids[0].Kids[0].Kids[0]; !same(got, want) {
			t.Errorf("P15.5: an INT of %d digits is %s", len(text), tell(got, true))
		}
	}
	for _, x := range []api.Token{{Kind: 1, Text: "_"}, {Kind: 1, Text: "If"}, {Kind: 1, Text: "a1_Z"}, {Kind: 1, Text: "none"}, {Kind: 4, Text: ""}, {Kind: 4, Text: "if"}, {Kind: 4, Text: "\u00f1\U0001F600\x00\n"}} {
		n, f := parser.Parse([]api.Token{x, {Kind: api.TokenNewline}})
		if f != (api.Fault{}) || n.Kids[0].Kids[0].Kids[0].Text != x.Text {
			t.Errorf("P15.5: %v: %s", x, said(n, f))
		}
	}
}

func TestP15_6(t *testing.T) {
	for src, want := range map[string]string{
		"'\n":                                "fault 104 0",
		"a b '":                              "fault 104 4",
		"1 = a\n07":                          "fault 105 6",
		"a!":                                 "fault 102 1",
		") $":                                "fault 102 2",
		"if a:\n  b\n c":                     "fault 103 11",
		"1a":                                 "fault 105 0",
		strings.Repeat("(", 61):              "fault 107 60",
		strings.Repeat("(", 60):              "fault 106 60",
		strings.Repeat(" ", api.MaxSource+1): "fault 101 65536",
		strings.Repeat(" ", api.MaxSource):   "Module@0(Block@0)",
		"":                                   "Module@0(Block@0)",
		"# remark":                           "Module@0(Block@0)",
		"a # b\n":                            "Module@0(Block@0(Expr@0(a@0)))",
		"(a\n +b)":                           "Module@0(Block@0(Expr@0(Binary +@1(a@1, b@5))))",
		"\xff":                               "fault 102 0",
		"'\xff'":                             "fault 104 0",
	} {
		if got := said(parser.Source([]byte(src))); got != want {
			t.Errorf("P15.6: %.40q is %s, not %s", src, got, want)
		}
	}
	if got := said(parser.Source(nil)); got != "Module@0(Block@0)" {
		t.Errorf("P15.6: no source: %s", got)
	}
	bytes := "ab1 \n()[]{}:=,.'#-+*if in not for else def\xff"
	g := newGardener(6)
	for range 20000 {
		var src []byte
		for range g.Intn(12) {
			src = append(src, bytes[g.Intn(len(bytes))])
		}
		list, fault := lexer.Tokens(src)
		want := said(api.Node{}, fault)
		if fault == (api.Fault{}) {
			want = said(parser.Parse(list))
		}
		if got := said(parser.Source(src)); got != want {
			t.Errorf("P15.6: %q is %s, not %s", src, got, want)
		}
	}
}

// TestP14_5AndP15_7: of trees by chance, and of the samples.
func TestP14_5AndP15_7(t *testing.T) {
	for seed := range 4 {
		t.Run("", func(t *testing.T) {
			t.Parallel()
			g := newGardener(100 + seed)
			read := 0
			for range 300 {
				n := g.tree()
				if again(t, n) {
					read++
				}
			}
			if read < 250 {
				t.Errorf("P14.5: of 300 trees only %d were read", read)
			}
		})
	}
	for _, src := range samples {
		n, f := parser.Source([]byte(src))
		if f != (api.Fault{}) || tree.Check(n) != api.OK || n.Kind != api.NodeModule {
			t.Errorf("P15.7: %q: %s", src, said(n, f))
		}
		again(t, n)
	}
}

// again holds what is read of a Print against the tree; it tells whether the
// lexer and the parser take it.
func again(t testing.TB, n api.Node) bool {
	t.Helper()
	text := tree.Print(n)
	back, f := parser.Source([]byte(text))
	if f.Code == api.FaultDeep || f.Code == api.FaultLong {
		return false
	}
	if f != (api.Fault{}) {
		t.Errorf("P14.5: %q: %v", text, f)
		return false
	}
	if !same(tree.Bare(back), tree.Bare(n)) {
		t.Errorf("P14.5: %q is read as\n%s, not\n%s", text, tell(back, false), tell(n, false))
	}
	if tree.Print(back) != text {
		t.Errorf("P14.5: %q is read, and printed as %q", text, tree.Print(back))
	}
	return true
}

// A landlord knows whose each place of a list is, its spare room too.
type landlord struct {
	nodes map[*api.Node]bool
	words map[*uint32]bool
}

// takes tells whether nobody had the lists of a tree.
func (l landlord) takes(n api.Node) bool {
	free := true
	for i := range n.Kids[:cap(n.Kids)] {
		place := &n.Kids[:cap(n.Kids)][i]
		free = free && !l.nodes[place]
		l.nodes[place] = true
	}
	for i := range n.Num.Mag[:cap(n.Num.Mag)] {
		place := &n.Num.Mag[:cap(n.Num.Mag)][i]
		free = free && !l.words[place]
		l.words[place] = true
	}
	for _, kid := range n.Kids {
		free = l.takes(kid) && free
	}
	return free
}

// scribble turns all of a tree, the spare room of its lists too.
func scribble(n *api.Node) {
	for i := range n.Kids {
		scribble(&n.Kids[i])
	}
	clear(n.Kids[:cap(n.Kids)])
	clear(n.Num.Mag[:cap(n.Num.Mag)])
	n.Kind, n.At, n.Text = 99, -99, "scribble"
}

func TestP15_8(t *testing.T) {
	number := "18446744073709551616"
	many := strings.Join(samples[1:], "\n") + "\n" + number + " + " + number + ", 0, 0, 1, 1\n"
	list := lexed(t, many)
	first, f := parser.Parse(list)
	if f != (api.Fault{}) {
		t.Fatal(f)
	}
	told := tell(first, true)

	roomy := append(slices.Clone(list), list[:50]...)
	handed := roomy[:len(list)]
	second, _ := parser.Parse(handed)
	if !slices.Equal(handed, list) || !slices.Equal(roomy[len(list):], list[:50]) {
		t.Error("P15.8: the tokens were changed, or their spare room")
	}
	clear(roomy)
	if tell(second, true) != told {
		t.Error("P15.8: a tree hangs on the tokens behind the call")
	}
	src := append([]byte(many), "spare room"...)
	third, _ := parser.Source(src[:len(many)])
	if string(src) != many+"spare room" {
		t.Error("P15.8: the source was changed, or its spare room")
	}
	clear(src)
	if tell(third, true) != told {
		t.Error("P15.8: a tree hangs on the source behind the call")
	}

	l := landlord{map[*api.Node]bool{}, map[*uint32]bool{}}
	for i, n := range []api.Node{first, second, third} {
		if !l.takes(n) {
			t.Errorf("P15.8: tree %d has a list that another has, too, or one list twice", i)
		}
	}
	scribble(&first)
	fourth, _ := parser.Parse(list)
	if tell(second, true) != told || tell(fourth, true) != told {
		t.Error("P15.8: a tree hangs on one that was answered ahead")
	}
}

// TestBound: as many parts within one another as are promised.
func TestBound(t *testing.T) {
	const most = 1 << 16
	for _, row := range []struct {
		ahead, middle, behind string
		want                  string
	}{
		{"(", "a", ") NL", "Module@0(Block@0(Expr@0(a@65536)))"},
		{"{ a :", "a", "] NL", "fault 106 196609"},
		{"f ( k =", "f", ") NL", "fault 107 592"},
		{"not", "a NL", "", "fault 107 297"},
		{"if a : NL IN", "pass NL", "DE", "fault 107 745"},
		{"", "if a : NL IN pass NL DE", "elif a : NL IN pass NL DE", "fault 107 1189"},
		{"", "a", "+ a", "fault 106 131072"},
		{"", "a", "+ a NL", "fault 107 0"},
	} {
		behind, newline := strings.CutSuffix(row.behind, " NL")
		list := slices.Concat(slices.Repeat(tokens(row.ahead), most), tokens(row.middle), slices.Repeat(tokens(behind), most))
		if newline {
			list = append(list, tokens("NL")...)
		}
		for i := range list {
			list[i].At = i
		}
		if got := said(parser.Parse(list)); got != row.want {
			t.Errorf("P15.1, P15.4: %d times %q: %.100s, not %s", most, row.ahead+" "+row.behind, got, row.want)
		}
	}
}

// TestGames holds tokens by chance, grown by the grammar, and twisted ones,
// against the model; and sources of them.
func TestGames(t *testing.T) {
	for seed := range 8 {
		t.Run("", func(t *testing.T) {
			t.Parallel()
			g := newGardener(seed)
			taken := 0
			for range 400 {
				list := g.module(16 + g.Intn(30))
				n, f := agree(t, list)
				if f == (api.Fault{}) {
					taken++
					again(t, n)
					checkWritten(t, list, n)
				}
				agree(t, g.twist(list))
				agree(t, g.twist(list))
			}
			if taken < 300 || taken == 400 {
				t.Errorf("of 400 lists of tokens %d were taken", taken)
			}
		})
	}
}

// checkWritten: the tree of the source is that of the tokens, but for the At.
func checkWritten(t *testing.T, list []api.Token, n api.Node) {
	t.Helper()
	src := written(list, letters.Quote)
	back, f := parser.Source([]byte(src))
	if f.Code == api.FaultDeep {
		return
	}
	if f != (api.Fault{}) || !same(tree.Bare(back), tree.Bare(n)) {
		t.Errorf("P15.6: %q: %s\nwant %s", src, said(back, f), tell(n, false))
	}
	agree(t, lexed(t, src))
}

package parser_test

import (
	"fmt"
	"math/big"
	"regexp"
	"slices"
	"strings"
	"unicode/utf8"

	"lexicon/api"
)

// grammar is the chapter's, words and signs in quotes. Where the chapter says
// beside a row in which order its parts stand (params, excepts, args), rows of
// their own say it here.
const grammar = `
module   = {stmt} END
stmt     = simple NEWLINE | if | while | for | def | class | try
block    = ':' NEWLINE INDENT stmt {stmt} DEDENT
if       = 'if' expr block {elif} [else]
elif     = 'elif' expr block
else     = 'else' block
while    = 'while' expr block
for      = 'for' targets 'in' exprs block
def      = 'def' NAME '(' [params] ')' block
params   = bare {',' bare} {',' given} [',' rest] [','] | given {',' given} [',' rest] [','] | rest [',']
bare     = NAME
given    = NAME '=' expr
rest     = '**' NAME
class    = 'class' NAME ['(' expr ')'] block
try      = 'try' block except {except} [last] | 'try' block last
except   = 'except' expr ['as' NAME] block
last     = 'except' block
simple   = 'pass' | 'break' | 'continue' | 'return' [exprs] | 'raise' [expr] | names | 'del' postfix | exprs | assign | augment
names    = 'global' NAME {',' NAME} | 'nonlocal' NAME {',' NAME}
assign   = exprs '=' exprs
augment  = exprs operator exprs
operator = '+=' | '-=' | '*=' | '//=' | '%=' | '&=' | '|=' | '^='
exprs    = expr {',' expr} [',']
targets  = postfix {',' postfix}
expr     = or ['if' or 'else' expr]
or       = and {'or' and}
and      = not {'and' not}
not      = 'not' not | compare
compare  = bits [sign bits]
sign     = '==' | '!=' | '<' | '<=' | '>' | '>=' | 'in' | 'not' 'in' | 'is' | 'is' 'not'
bits     = xor {'|' xor}
xor      = both {'^' both}
both     = sum {'&' sum}
sum      = term {'+' term | '-' term}
term     = minus {'*' minus | '//' minus | '%' minus}
minus    = '-' minus | postfix
postfix  = atom {call | attr | index}
call     = '(' [args] ')'
attr     = '.' NAME
index    = '[' exprs ']'
args     = expr {',' expr} {',' keyword} [',' spread] [','] | keyword {',' keyword} [',' spread] [','] | spread [',']
keyword  = NAME '=' expr
spread   = '**' expr
atom     = NAME | INT | STR | 'None' | 'True' | 'False' | inner | tuple | list | dict | set | listcomp | setcomp | dictcomp
inner    = '(' expr ')'
tuple    = '(' ')' | '(' expr ',' [expr {',' expr} [',']] ')'
list     = '[' ']' | '[' expr {',' expr} [','] ']'
listcomp = '[' expr comp ']'
set      = '{' expr {',' expr} [','] '}'
setcomp  = '{' expr comp '}'
dict     = '{' '}' | '{' item {',' item} [','] '}'
dictcomp = '{' pair comp '}'
item     = pair | spread
pair     = expr ':' expr
comp     = 'for' targets 'in' or {'if' or}
`

// An element is a part of a row: a token, a row, or ways of which one is gone,
// or none (an option), or any number (many).
type element struct {
	form byte // 't' a word or sign, 'k' a kind of tokens, 'r' a row, '(' ways, '[' an option, '{' many
	kind int  // of 't', 'k'
	text string
	row  int // of 'r'
	ways [][]element
}

// rules are the grammar's rows, by their numbers.
type rules struct {
	names []string
	rows  []element
}

var theRules = readGrammar(grammar)

func readGrammar(text string) *rules {
	g := &rules{}
	lines := strings.Split(strings.TrimSpace(text), "\n")
	for _, line := range lines {
		g.names = append(g.names, strings.Fields(line)[0])
	}
	for _, line := range lines {
		_, body, _ := strings.Cut(line, "=")
		pieces := regexp.MustCompile(`'[^']*'|\w+|[][{}|]`).FindAllString(body, -1)
		row, rest := g.ways('(', pieces)
		if len(rest) > 0 {
			panic("left over: " + line)
		}
		g.rows = append(g.rows, row)
	}
	return g
}

func (g *rules) number(name string) int {
	i := slices.Index(g.names, name)
	if i < 0 {
		panic("no row " + name)
	}
	return i
}

func (g *rules) ways(form byte, pieces []string) (element, []string) {
	e := element{form: form, ways: [][]element{nil}}
	for len(pieces) > 0 {
		piece := pieces[0]
		if piece == "]" || piece == "}" {
			break
		}
		pieces = pieces[1:]
		last := &e.ways[len(e.ways)-1]
		switch {
		case piece == "|":
			e.ways = append(e.ways, nil)
		case piece == "[" || piece == "{":
			var inner element
			inner, pieces = g.ways(piece[0], pieces)
			pieces = pieces[1:]
			*last = append(*last, inner)
		case piece[0] == '\'':
			text := strings.Trim(piece, "'")
			*last = append(*last, element{form: 't', kind: markKind(text), text: text})
		case piece == strings.ToUpper(piece):
			*last = append(*last, element{form: 'k', kind: kindNumbers[piece], text: piece})
		default:
			*last = append(*last, element{form: 'r', row: g.number(piece)})
		}
	}
	return e, pieces
}

var kindNumbers = map[string]int{"NAME": 1, "INT": 3, "STR": 4, "NEWLINE": 6, "INDENT": 7, "DEDENT": 8, "END": 9}

const wordList = " and as break class continue def del elif else except False for global if in is None nonlocal not or pass raise return True try while "

var (
	nameForm = regexp.MustCompile(`\A[A-Za-z_][A-Za-z0-9_]*\z`)
	intForm  = regexp.MustCompile(`\A(0|[1-9][0-9]*)\z`)
)

func isWord(s string) bool { return strings.Contains(wordList, " "+s+" ") }

// markKind is the kind of the token of a word or sign.
func markKind(text string) int {
	if isWord(text) {
		return 2
	}
	return 5
}

func bigOf(s string) *big.Int {
	v, _ := new(big.Int).SetString(s, 10)
	return v
}

// fits tells whether a token is an element's.
func (e element) fits(t api.Token) bool {
	if t.Kind != e.kind {
		return false
	}
	if e.form == 't' {
		return t.Text == e.text
	}
	switch e.text {
	case "NAME":
		return nameForm.MatchString(t.Text) && !isWord(t.Text)
	case "INT":
		return intForm.MatchString(t.Text) && bigOf(t.Text).BitLen() <= 32*256
	case "STR":
		return utf8.ValidString(t.Text)
	}
	return true
}

// A matcher goes all ways that the grammar has. It knows where each row that
// begins at a token may end; and the farthest token at which no way went on,
// with what would have had to stand there. All rows can be ended somehow, so
// that each token ahead of that one can stand where it stands, and it can't.
type matcher struct {
	tokens   []api.Token
	known    [][][]int // by token and row
	alone    []int     // all numbers, rising: a list of one is a piece of it
	farthest int
	wanted   []want // at the farthest
	within   int    // the row that is being gone through
}

type want struct {
	row  int
	text string
}

func newMatcher(tokens []api.Token) *matcher {
	m := &matcher{tokens: tokens, farthest: -1}
	m.known = make([][][]int, len(tokens)+1)
	m.alone = make([]int, len(tokens)+1)
	for i := range m.alone {
		m.alone[i] = i
	}
	return m
}

// only is the list of a number.
func (m *matcher) only(at int) []int { return m.alone[at : at+1 : at+1] }

func (m *matcher) miss(e element, at int) {
	if at > m.farthest {
		m.farthest, m.wanted = at, m.wanted[:0]
	}
	if at == m.farthest {
		m.wanted = append(m.wanted, want{m.within, e.text})
	}
}

// ends is where an element that begins at a token may end, rising.
func (m *matcher) ends(e element, at int) []int {
	switch e.form {
	case 't', 'k':
		if at < len(m.tokens) && e.fits(m.tokens[at]) {
			return m.only(at + 1)
		}
		m.miss(e, at)
		return nil
	case 'r':
		return m.rowEnds(e.row, at)
	case '{':
		return m.manyEnds(e, at)
	}
	var list []int
	if e.form == '[' {
		list = m.only(at)
	}
	for _, way := range e.ways {
		list = union(list, m.wayEnds(way, at))
	}
	return list
}

var noEnds = []int{}

func (m *matcher) rowEnds(row, at int) []int {
	if m.known[at] == nil {
		m.known[at] = make([][]int, len(theRules.rows))
	}
	known := &m.known[at][row]
	if *known != nil {
		return *known
	}
	outer := m.within
	m.within = row
	list := m.ends(theRules.rows[row], at)
	m.within = outer
	if list == nil {
		list = noEnds
	}
	*known = list
	return list
}

func (m *matcher) wayEnds(way []element, at int) []int {
	list := m.only(at)
	for _, e := range way {
		if len(list) == 1 {
			list = m.ends(e, list[0])
			continue
		}
		var next []int
		for _, from := range list {
			next = union(next, m.ends(e, from))
		}
		list = next
	}
	return list
}

func (m *matcher) manyEnds(e element, at int) []int {
	list := m.only(at)
	for i := 0; i < len(list); i++ {
		for _, way := range e.ways {
			list = union(list, m.wayEnds(way, list[i]))
		}
	}
	return list
}

// union of two rising lists.
func union(a, b []int) []int {
	if len(a) == 0 {
		return b
	}
	if len(b) == 0 {
		return a
	}
	list := slices.Concat(a, b)
	if a[len(a)-1] >= b[0] {
		slices.Sort(list)
	}
	return slices.Compact(list)
}

// A growth is how a row has grown from the tokens: rows and tokens, in their
// order, options and repeats being laid flat.
type growth struct {
	row      string // of a token: none
	token    api.Token
	from, to int
	parts    []growth
}

// grown is the row's only growth of these tokens.
func (m *matcher) grown(row, from, to int) growth {
	ways := m.split(theRules.rows[row], from, to)
	if len(ways) != 1 {
		panic(fmt.Sprint(len(ways), " ways of ", theRules.names[row]))
	}
	return growth{row: theRules.names[row], from: from, to: to, parts: ways[0]}
}

// split is all ways in which an element grows from these tokens.
func (m *matcher) split(e element, from, to int) (found [][]growth) {
	if !slices.Contains(m.ends(e, from), to) {
		return nil
	}
	switch e.form {
	case 't', 'k':
		return [][]growth{{{token: m.tokens[from], from: from, to: to}}}
	case 'r':
		return [][]growth{{m.grown(e.row, from, to)}}
	case '[', '{':
		if from == to {
			return [][]growth{nil}
		}
	}
	for _, way := range e.ways {
		if e.form == '{' {
			way = append(slices.Clone(way), e)
		}
		found = append(found, m.splitWay(way, from, to)...)
	}
	return found
}

func (m *matcher) splitWay(way []element, from, to int) (found [][]growth) {
	if len(way) == 0 {
		if from == to {
			return [][]growth{nil}
		}
		return nil
	}
	for _, end := range m.ends(way[0], from) {
		if end > to || !slices.Contains(m.wayEnds(way[1:], end), to) {
			continue
		}
		for _, rest := range m.splitWay(way[1:], end, to) {
			for _, first := range m.split(way[0], from, end) {
				found = append(found, slices.Concat(first, rest))
			}
		}
	}
	return found
}

// rowsOf is a growth's parts of these rows.
func (g growth) rowsOf(names ...string) (list []growth) {
	for _, part := range g.parts {
		if slices.Contains(names, part.row) {
			list = append(list, part)
		}
	}
	return list
}

// has tells whether a word or sign is among a growth's parts.
func (g growth) has(text string) bool {
	return slices.ContainsFunc(g.parts, func(part growth) bool {
		return part.row == "" && part.token.Text == text && (part.token.Kind == 2 || part.token.Kind == 5)
	})
}

// namesOf is the NAMEs among a growth's parts.
func (g growth) namesOf() (list []api.Token) {
	for _, part := range g.parts {
		if part.row == "" && part.token.Kind == 1 {
			list = append(list, part.token)
		}
	}
	return list
}

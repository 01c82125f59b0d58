package compile_test

import (
	"fmt"
	"regexp"
	"slices"
	"strconv"
	"strings"

	"lexicon/api"
	"lexicon/code"
	"lexicon/scope"
)

// The model reads the chapter's tables. A row is a kind of node and what of it
// there is (where its code hangs on that); what its kids are called; its code.
//
// In the code, X: is a place, which END, ELSE, .. tell; up.X is that of the node
// around, loop.X that of the loop around. The name of a kid is that kid's code,
// kids that of all of them, t.kids that of those of the kid t; text, t.text are
// Texts. "each ROW" is that row of each kid, by its kind.
const chapterRows = `
Module              | block            | block, const None, return
Block               |                  | kids
Expr                | e                | e, pop
Assign              | t e              | e, to t
Unpack              | t e              | e, to t
Augment Name        | t e              | load t.text, e, binary text, store t.text
Augment Attr        | t e              | t.kids, dup, loadattr t.text, e, binary text, swap, setattr t.text
Augment Index       | t e              | t.kids, dup2, loadindex, e, binary text, turn, setindex
Del Name            | t                | del t.text
Del Attr            | t                | t.kids, delattr t.text
Del Index           | t                | t.kids, delindex
Pass                |                  |
Global              |                  |
Nonlocal            |                  |
If else             | test block other | test, ifnot ELSE, block, jump END, ELSE:, other, END:
If                  | test block other | test, ifnot ELSE, block, ELSE:
While               | test block       | L:, test, ifnot END, block, jump L, END:
For                 | t e block        | e, iter, L:, next END, to t, block, jump L, END:
Continue            |                  | endtrys, jump loop.L
Break While         |                  | endtrys, jump loop.END
Break For           |                  | endtrys, pop, jump loop.END
Return value        | e                | e, return
Return              |                  | const None, return
Raise value         | e                | e, raise
Raise               |                  | loadlocal around, raise
Def                 |                  | each default, pushcells, func, store text
Class base          | base             | base, pushcells, func, class text 1, store text
Class               |                  | pushcells, func, class text 0, store text
Try class           | first            | try H, first, endtry, jump END, H:, storelocal p, each except, loadlocal p, raise, END:
Try                 | first            | try H, first, endtry, jump END, H:, storelocal p, each except, END:
Except class name   | class block      | loadlocal around, class, match, ifnot NEXT, loadlocal around, store text, block, jump up.END, NEXT:
Except class        | class block      | loadlocal around, class, match, ifnot NEXT, block, jump up.END, NEXT:
Except              | class block      | block, jump up.END
to Name             |                  | store text
to Attr             |                  | kids, setattr text
to Index            |                  | kids, setindex
to Targets          |                  | unpack count, each to
Name                |                  | load text
Int                 |                  | const it
Str                 |                  | const it
Const               |                  | const it
Tuple               |                  | kids, tuple count
List                |                  | kids, list count
Set                 |                  | set, each item
Dict                |                  | dict, each item
item Pair           | key value        | key, value, addpair 1
item Spread         | it               | it, merge 1
item                | it               | self, additem 1
Choose              | first test other | test, ifnot ELSE, first, jump END, ELSE:, other, END:
Or                  | a b              | a, or END, b, END:
And                 | a b              | a, and END, b, END:
Not                 | a                | a, not
Negative            | a                | a, negative
Compare             | a b              | a, b, compare text
Binary              | a b              | a, b, binary text
Call                |                  | each argument, call arguments 0
Call keywords       |                  | each argument, dict, each keyword, call arguments 1
keyword Keyword     | it               | const text, it, addpair 1
keyword Spread      | it               | it, keyword 1
Attr                | a                | a, loadattr text
Index               | a b              | a, b, loadindex
ListComp            | first t e        | pushcells, func, e, iter, call 1 0
SetComp             | first t e        | pushcells, func, e, iter, call 1 0
DictComp            | first t e        | pushcells, func, e, iter, call 1 0
within Def          |                  | each cell, last, const None, return
within Class        | base block       | block, const None, return
within ListComp     | first t e        | list 0, loadlocal 0, L:, next END, to t, each condition, first, append 2, jump L, END:, return
within SetComp      | first t e        | set, loadlocal 0, L:, next END, to t, each condition, first, additem 2, jump L, END:, return
within DictComp     | first t e        | dict, loadlocal 0, L:, next END, to t, each condition, first.kids, addpair 2, jump L, END:, return
condition           |                  | self, ifnot up.L
`

const (
	signs       = " + - * // % & | ^ "
	comparisons = " == != < <= > >= in not_in is is_not "
)

// kindNames are by their numbers.
var kindNames = kindTable()

func kindTable() []string {
	outer := strings.Fields("None Module Block Expr Assign Unpack Augment Del Pass Break Continue Return Raise Global Nonlocal If While For Def Param Class Try Except Targets")
	inner := strings.Fields("Name Int Str Const Tuple List Set Dict Pair Spread ListComp SetComp DictComp Choose Or And Not Compare Binary Negative Call Keyword Attr Index")
	list := append(outer, make([]string, api.NodeName-len(outer))...)
	return append(list, inner...)
}

type row struct {
	kids []string
	code []string
}

var rows = readRows()

func readRows() map[string]row {
	table := map[string]row{}
	for _, line := range strings.Split(strings.TrimSpace(chapterRows), "\n") {
		cells := strings.Split(line, "|")
		r := row{kids: strings.Fields(cells[1])}
		if words := strings.TrimSpace(cells[2]); words != "" {
			r.code = strings.Split(words, ", ")
		}
		table[strings.TrimSpace(cells[0])] = r
	}
	return table
}

// opNumbers are by the names of chapter 17.
var opNumbers = func() map[string]int {
	table := map[string]int{}
	for op := api.OpConst; op <= api.OpKeyword; op++ {
		table[code.Name(op)] = op
	}
	return table
}()

// spot is a node in the order of All, with the spot of the one whose Kid it is,
// and which Kid.
type spot struct {
	api.Node
	at, nth int
	up      *spot
	kids    []*spot
}

func (s *spot) kind() string { return kindNames[s.Kind] }

// label is a place in a function: a node's, by the letters that tell it.
type label struct {
	of   int
	word string
}

// laid is an instruction before its A is known: a number, a label, a name, a
// constant; without an op a label that stands there.
type laid struct {
	op string
	a  any
	b  int
}

type name string

type model struct {
	all     []*spot
	found   []*spot // those that are scopes
	scopes  []api.Scope
	of      int // the scope whose code is laid
	code    []laid
	program api.Program
	known   map[string]int // constants, names: where they stand
}

// modelCompile is what Compile is to answer.
func modelCompile(n api.Node) (api.Program, api.Fault) {
	scopes, f := scope.Scopes(n)
	if f != (api.Fault{}) {
		return api.Program{}, f
	}
	m := &model{scopes: scopes, known: map[string]int{}}
	m.flatten(n, nil, 0)
	if len(m.found) > 10000 {
		return api.Program{}, api.Fault{Code: 116}
	}
	for m.of = range m.found {
		m.program.Funcs = append(m.program.Funcs, m.function(m.found[m.of]))
	}
	if _, e := code.Verify(m.program); e != api.OK {
		return api.Program{}, api.Fault{Code: 116}
	}
	return m.program, api.Fault{}
}

var scopeKind = regexp.MustCompile(`^(Module|Def|Class|ListComp|SetComp|DictComp)$`)

func (s *spot) isScope() bool { return scopeKind.MatchString(s.kind()) }

func (m *model) flatten(n api.Node, up *spot, nth int) *spot {
	s := &spot{Node: n, at: len(m.all), nth: nth, up: up}
	m.all = append(m.all, s)
	if s.isScope() {
		m.found = append(m.found, s)
	}
	for i, kid := range n.Kids {
		s.kids = append(s.kids, m.flatten(kid, s, i))
	}
	return s
}

// belongs is the number of the scope that a spot belongs to.
func (m *model) belongs(s *spot) int {
	for ; s.up != nil; s = s.up {
		inside := false
		switch s.up.kind() {
		case "Module":
			inside = true
		case "Def":
			inside = s.nth == len(s.up.kids)-1
		case "Class":
			inside = s.nth == 1
		case "ListComp", "SetComp", "DictComp":
			inside = s.nth != 2
		}
		if inside {
			return slices.Index(m.found, s.up)
		}
	}
	return -1
}

// trysOf is those of the scope whose code is laid.
func (m *model) trysOf() (list []*spot) {
	for _, s := range m.all {
		if s.kind() == "Try" && m.belongs(s) == m.of {
			list = append(list, s)
		}
	}
	return list
}

func (m *model) function(s *spot) api.Func {
	told := m.scopes[m.of]
	f := api.Func{Kind: told.Kind, Cells: told.Cells, Frees: told.Frees, Names: make([]string, told.Locals)}
	for _, u := range told.Uses {
		if u.What == api.UseLocal {
			f.Names[u.Slot] = u.Name
		}
	}
	switch s.kind() {
	case "Def":
		f.Name = s.Text
		for i, p := range s.kids[:len(s.kids)-1] {
			f.Names[i] = p.Text
			f.Rest = len(p.kids) == 0
			if !f.Rest {
				f.Params++
			}
			if m.rowsOf("default", p) != nil {
				f.Defaults++
			}
		}
	case "Class":
		f.Name = s.Text
	case "ListComp", "SetComp", "DictComp":
		f.Params, f.Names[0] = 1, ".0"
	}
	trys := len(m.trysOf())
	for i := range trys {
		f.Names[told.Locals-trys+i] = fmt.Sprint(".e", i)
	}
	m.code = nil
	if s.kind() == "Module" {
		m.lay("Module", s)
	} else {
		m.lay("within "+s.kind(), s)
	}
	f.Code = m.assembled()
	return f
}

// assembled is the code with its places, constants and names as numbers.
func (m *model) assembled() (list []api.Instr) {
	places := map[label]int{}
	at := 0
	for _, l := range m.code {
		if l.op == "" {
			places[l.a.(label)] = at
		} else {
			at++
		}
	}
	for _, l := range m.code {
		i := api.Instr{Op: opNumbers[l.op], B: l.b}
		switch a := l.a.(type) {
		case int:
			i.A = a
		case label:
			i.A = places[a]
		case name:
			key := "name " + string(a)
			if _, ok := m.known[key]; !ok {
				m.known[key] = len(m.program.Names)
				m.program.Names = append(m.program.Names, string(a))
			}
			i.A = m.known[key]
		case api.Const:
			key := fmt.Sprintf("const %+v", a)
			if _, ok := m.known[key]; !ok {
				m.known[key] = len(m.program.Consts)
				m.program.Consts = append(m.program.Consts, a)
			}
			i.A = m.known[key]
		}
		if l.op != "" {
			list = append(list, i)
		}
	}
	return list
}

// variant is the row of a node as a statement, an expression.
func variant(s *spot) string {
	isNone := func(nth int) bool { return s.Kids[nth].Kind == api.NodeNone }
	pick := func(is bool, word string) string {
		if is {
			return s.kind() + word
		}
		return s.kind()
	}
	switch s.kind() {
	case "Augment", "Del":
		return s.kind() + " " + s.kids[0].kind()
	case "If":
		return pick(!isNone(2), " else")
	case "Break":
		return "Break " + loopAround(s).kind()
	case "Return", "Raise":
		return pick(!isNone(0), " value")
	case "Class":
		return pick(!isNone(0), " base")
	case "Try":
		last := s.kids[len(s.kids)-1]
		return pick(last.Kids[0].Kind != api.NodeNone, " class")
	case "Except":
		return pick(!isNone(0), " class") + map[bool]string{true: " name"}[s.Text != ""]
	case "Call":
		return pick(slices.ContainsFunc(s.kids, isNamed), " keywords")
	}
	return s.kind()
}

func isNamed(s *spot) bool { return s.kind() == "Keyword" || s.kind() == "Spread" }

// blockOf tells whether a spot is a Block of one of the kinds; a Try's first
// one is none of an Except's.
func blockOf(s *spot, kinds ...string) bool {
	return s.kind() == "Block" && slices.Contains(kinds, s.up.kind())
}

func loopAround(s *spot) *spot {
	for !blockOf(s, "While", "For") {
		s = s.up
	}
	return s.up
}

// rowsOf is the rows that "each" means of a node, with the spots they are of.
func (m *model) rowsOf(what string, s *spot) (list []func()) {
	add := func(row string, of *spot) { list = append(list, func() { m.lay(row, of) }) }
	for _, kid := range s.kids {
		switch what {
		case "default":
			if s.kind() == "Param" && kid.kind() != "None" {
				add(variant(kid), kid)
			} else if s.kind() == "Def" && kid.kind() == "Param" {
				list = append(list, m.rowsOf("default", kid)...)
			}
		case "except":
			if kid.kind() == "Except" {
				add(variant(kid), kid)
			}
		case "to":
			add("to "+kid.kind(), kid)
		case "item":
			if kid.kind() == "Pair" || kid.kind() == "Spread" {
				add("item "+kid.kind(), kid)
			} else {
				add("item", kid)
			}
		case "argument":
			if !isNamed(kid) {
				add(variant(kid), kid)
			}
		case "keyword":
			if isNamed(kid) {
				add("keyword "+kid.kind(), kid)
			}
		case "condition":
			if kid.nth >= 3 {
				add("condition", kid)
			}
		case "cell":
			if kid.kind() != "Param" {
				continue
			}
			if u := m.use(kid.Text); u.What == api.UseCell {
				list = append(list, func() {
					m.code = append(m.code, laid{"loadlocal", kid.nth, 0}, laid{"storecell", u.Slot, 0})
				})
			}
		}
	}
	return list
}

// use is a name's use in the scope whose code is laid.
func (m *model) use(text string) api.Use {
	var uses []api.Use
	for _, u := range m.scopes[m.of].Uses {
		if u.Name == text {
			uses = append(uses, u)
		}
	}
	if len(uses) == 2 {
		uses = slices.DeleteFunc(uses, func(u api.Use) bool { return u.What == api.UseFree })
	}
	return uses[0]
}

// lay lays a row's code.
func (m *model) lay(title string, s *spot) {
	r, ok := rows[title]
	if !ok {
		panic("no row " + title)
	}
	for _, item := range r.code {
		m.item(item, r, s)
	}
}

func (m *model) item(item string, r row, s *spot) {
	op, rest, _ := strings.Cut(item, " ")
	kid := func(word string) *spot {
		if nth := slices.Index(r.kids, word); nth >= 0 {
			return s.kids[nth]
		}
		return nil
	}
	every := func(list []*spot) {
		for _, k := range list {
			m.lay(variant(k), k)
		}
	}
	owner, member, dotted := strings.Cut(op, ".")
	switch {
	case strings.HasSuffix(op, ":"):
		m.code = append(m.code, laid{a: label{s.at, strings.TrimSuffix(op, ":")}})
	case op == "each":
		for _, lay := range m.rowsOf(rest, s) {
			lay()
		}
	case op == "to":
		m.lay("to "+kid(rest).kind(), kid(rest))
	case op == "self":
		every([]*spot{s})
	case op == "last":
		every(s.kids[len(s.kids)-1:])
	case op == "kids":
		every(s.kids)
	case dotted && member == "kids":
		every(kid(owner).kids)
	case kid(op) != nil:
		every([]*spot{kid(op)})
	default:
		m.instruction(op, strings.Fields(rest), kid, s)
	}
}

func (m *model) instruction(op string, words []string, kid func(string) *spot, s *spot) {
	text := s.Text
	if len(words) > 0 {
		if owner, member, dotted := strings.Cut(words[0], "."); dotted && member == "text" {
			text, words[0] = kid(owner).Text, "text"
		}
	}
	switch op {
	case "load", "store", "del":
		m.code = append(m.code, m.byUse(op, text))
	case "endtrys":
		for u := s; u != loopAround(s); u = u.up {
			if blockOf(u, "Try") {
				m.code = append(m.code, laid{op: "endtry"})
			}
		}
	case "pushcells":
		m.pushCells(s)
	case "func":
		m.code = append(m.code, laid{op, slices.Index(m.found, s), len(m.rowsOf("default", s))})
	default:
		l := laid{op: op}
		if len(words) > 0 {
			l.a = m.first(op, words[0], text, s)
		}
		if len(words) > 1 {
			l.b, _ = strconv.Atoi(words[1])
		}
		m.code = append(m.code, l)
	}
}

// byUse is load, store, del of a name.
func (m *model) byUse(op, text string) laid {
	u := m.use(text)
	switch u.What {
	case api.UseLocal:
		return laid{op + "local", u.Slot, 0}
	case api.UseCell, api.UseFree:
		return laid{op + "cell", u.Slot, 0}
	case api.UseGlobal:
		return laid{strings.Replace(op, "store", "set", 1) + "global", name(text), 0}
	}
	return laid{strings.Replace(op, "store", "set", 1) + "name", name(text), 0}
}

// pushCells goes through the Slots of a scope's frees, one behind the other.
func (m *model) pushCells(s *spot) {
	within := m.scopes[slices.Index(m.found, s)]
	for slot := within.Cells; slot < within.Cells+within.Frees; slot++ {
		for _, u := range within.Uses {
			if u.What != api.UseFree || u.Slot != slot {
				continue
			}
			for _, here := range m.scopes[m.of].Uses {
				if here.Name == u.Name && (here.What == api.UseCell || here.What == api.UseFree) {
					m.code = append(m.code, laid{"pushcell", here.Slot, 0})
				}
			}
		}
	}
}

// first is what a word says of A.
func (m *model) first(op, word, text string, s *spot) any {
	if n, err := strconv.Atoi(word); err == nil {
		return n
	}
	switch word {
	case "None":
		return api.Const{Kind: api.ValNone}
	case "it":
		return constOf(s.Node)
	case "count":
		return len(s.Kids)
	case "arguments":
		return len(m.rowsOf("argument", s)) - 1
	case "p":
		return m.placeOf(s)
	case "around":
		for !blockOf(s, "Except") && s.kind() != "Except" {
			s = s.up
		}
		for s.kind() != "Try" {
			s = s.up
		}
		return m.placeOf(s)
	case "text":
		switch op {
		case "const":
			return api.Const{Kind: api.ValStr, Text: text}
		case "binary":
			return slices.Index(strings.Fields(signs), text) + 1
		case "compare":
			return slices.Index(strings.Fields(comparisons), strings.ReplaceAll(text, " ", "_")) + 1
		}
		return name(text)
	}
	owner, member, dotted := strings.Cut(word, ".")
	switch {
	case !dotted:
		return label{s.at, word}
	case owner == "up":
		return label{s.up.at, member}
	}
	return label{loopAround(s).at, member}
}

// placeOf is a Try's place: they are the last ones.
func (m *model) placeOf(s *spot) int {
	trys := m.trysOf()
	return m.scopes[m.of].Locals - len(trys) + slices.Index(trys, s)
}

func constOf(n api.Node) api.Const {
	switch kindNames[n.Kind] {
	case "Int":
		return api.Const{Kind: api.ValInt, Num: n.Num}
	case "Str":
		return api.Const{Kind: api.ValStr, Text: n.Text}
	}
	if n.Text == "None" {
		return api.Const{Kind: api.ValNone}
	}
	return api.Const{Kind: api.ValBool, Bool: n.Text == "True"}
}

package parser_test

import (
	"fmt"
	"math/big"
	"slices"
	"strings"

	"lexicon/api"
)

// kindNames are the kinds by their numbers, as chapter 14 writes them.
var kindNames = map[int]string{
	0: "None", 1: "Module", 2: "Block", 3: "Expr", 4: "Assign", 5: "Unpack", 6: "Augment", 7: "Del", 8: "Pass",
	9: "Break", 10: "Continue", 11: "Return", 12: "Raise", 13: "Global", 14: "Nonlocal", 15: "If", 16: "While",
	17: "For", 18: "Def", 19: "Param", 20: "Class", 21: "Try", 22: "Except", 23: "Targets",
	31: "Name", 32: "Int", 33: "Str", 34: "Const", 35: "Tuple", 36: "List", 37: "Set", 38: "Dict", 39: "Pair",
	40: "Spread", 41: "ListComp", 42: "SetComp", 43: "DictComp", 44: "Choose", 45: "Or", 46: "And", 47: "Not",
	48: "Compare", 49: "Binary", 50: "Negative", 51: "Call", 52: "Keyword", 53: "Attr", 54: "Index",
}

var kindNumber = turned(kindNames)

func turned(names map[int]string) map[string]int {
	numbers := map[string]int{}
	for kind, name := range names {
		numbers[name] = kind
	}
	return numbers
}

// kindOf is a kind by its name.
func kindOf(name string) int {
	kind, ok := kindNumber[name]
	if !ok {
		panic("no kind " + name)
	}
	return kind
}

// numberOf is the Int of decimal digits.
func numberOf(digits string) api.Int {
	v := bigOf(digits)
	var x api.Int
	for v.Sign() > 0 {
		x.Mag = append(x.Mag, uint32(new(big.Int).And(v, big.NewInt(1<<32-1)).Uint64()))
		v.Rsh(v, 32)
	}
	return x
}

func leaf(kind string, at int, text string, kids ...api.Node) api.Node {
	return api.Node{Kind: kindOf(kind), At: at, Text: text, Kids: kids}
}

// modelParse is what Parse is to answer: all ways of the grammar are gone, and
// the tree is made of the one that there is.
func modelParse(tokens []api.Token) (api.Node, api.Fault) {
	end := api.Token{Kind: 9}
	if len(tokens) > 0 {
		end.At = tokens[len(tokens)-1].At
	}
	tokens = append(slices.Clone(tokens), end)
	first := slices.IndexFunc(tokens, func(t api.Token) bool { return t.Kind == 9 })
	tokens = tokens[:first+1]
	m := newMatcher(tokens)
	ends := m.rowEnds(theRules.number("module"), 0)
	stop, fault := len(tokens), api.Fault{}
	if len(ends) == 0 {
		stop, fault = m.farthest, api.Fault{Code: 106, At: tokens[m.place()].At}
	}
	if wrong := wrongTarget(m, stop); wrong != nil {
		fault = api.Fault{Code: 108, At: wrong.At}
	}
	if fault != (api.Fault{}) {
		return api.Node{}, fault
	}
	root := m.grown(theRules.number("module"), 0, len(tokens)).tree(tokens)
	if deep := modelDeep(root, 0); deep != nil {
		return api.Node{}, api.Fault{Code: 107, At: deep.At}
	}
	return root, api.Fault{}
}

// place is the token at which the fault is told. Where nothing but the `=` of
// a param behind one with a default, or of a keyword behind a keyword, would
// have gone on, it is the NAME.
func (m *matcher) place() int {
	for _, want := range m.wanted {
		name := theRules.names[want.row]
		if want.text != "=" || name != "given" && name != "keyword" {
			return m.farthest
		}
	}
	return m.farthest - 1
}

// wrongTarget is the first expression that is no target where one must stand,
// of those that are looked at up to a token.
func wrongTarget(m *matcher, stop int) (wrong *api.Node) {
	for i, t := range m.tokens {
		if i > stop {
			break
		}
		if t.Kind == 2 && (t.Text == "for" || t.Text == "del") {
			row := map[string]string{"for": "targets", "del": "postfix"}[t.Text]
			if list, end := m.apart(row, i+1); end >= 0 && end <= stop {
				for _, n := range slices.Backward(list) {
					if !modelTarget(n) {
						wrong, stop = &n, end
					}
				}
			}
		}
		if i == 0 || slices.Contains([]int{6, 7, 8}, m.tokens[i-1].Kind) {
			list, end := m.apart("exprs", i)
			if end >= 0 && end <= stop && !modelLeft(list[0], m.tokens[end]) {
				wrong, stop = &list[0], end
			}
		}
	}
	return wrong
}

// apart is the nodes of a row alone that begins at a token, and the token
// behind it; below 0, if the row is not whole where it can't go on.
func (m *matcher) apart(row string, at int) ([]api.Node, int) {
	if at >= len(m.tokens) {
		return nil, -1
	}
	part := newMatcher(m.tokens)
	number := theRules.number(row)
	ends := part.rowEnds(number, at)
	end := part.farthest
	if !slices.Contains(ends, end) {
		return nil, -1
	}
	g := part.grown(number, at, end)
	if row == "targets" {
		return g.trees(m.tokens, "postfix"), end
	}
	return []api.Node{g.tree(m.tokens)}, end
}

func modelTarget(n api.Node) bool {
	return slices.Contains([]string{"Name", "Attr", "Index"}, kindNames[n.Kind])
}

// modelLeft tells whether an expression may stand ahead of a token.
func modelLeft(n api.Node, behind api.Token) bool {
	switch {
	case behind.Kind != 5 || !strings.Contains(" = += -= *= //= %= &= |= ^= ", " "+behind.Text+" "):
		return true
	case behind.Text == "=" && kindNames[n.Kind] == "Tuple" && len(n.Kids) > 1:
		return !slices.ContainsFunc(n.Kids, func(kid api.Node) bool { return !modelTarget(kid) })
	}
	return modelTarget(n)
}

// modelDeep is the first node that stands within 300 others.
func modelDeep(n api.Node, within int) *api.Node {
	if within == 300 {
		return &n
	}
	for _, kid := range n.Kids {
		if deep := modelDeep(kid, within+1); deep != nil {
			return deep
		}
	}
	return nil
}

// trees is those of a growth's parts of these rows.
func (g growth) trees(tokens []api.Token, rows ...string) (list []api.Node) {
	for _, part := range g.rowsOf(rows...) {
		list = append(list, part.tree(tokens))
	}
	return list
}

// tree is what P15.2 says of a row.
func (g growth) tree(tokens []api.Token) api.Node {
	at := tokens[min(g.from, len(tokens)-1)].At
	first := g.parts
	switch g.row {
	case "module", "block":
		block := leaf("Block", 0, "", g.trees(tokens, "stmt")...)
		if len(block.Kids) > 0 {
			block.At = block.Kids[0].At
		}
		if g.row == "block" {
			return block
		}
		return leaf("Module", 0, "", block)
	case "stmt", "item":
		return first[0].tree(tokens)
	case "if", "while", "for", "def", "bare", "given", "rest", "class", "try", "except", "last":
		return g.compound(tokens, at)
	case "simple", "names", "assign", "augment":
		return g.simple(tokens, at)
	case "exprs":
		list := g.trees(tokens, "expr")
		if !g.has(",") {
			return list[0]
		}
		return leaf("Tuple", list[0].At, "", list...)
	case "targets":
		list := g.trees(tokens, "postfix")
		if len(list) == 1 {
			return list[0]
		}
		return leaf("Targets", list[0].At, "", list...)
	case "expr":
		list := g.trees(tokens, "or", "expr")
		if len(list) == 1 {
			return list[0]
		}
		return leaf("Choose", list[0].At, "", list...)
	case "or", "and", "bits", "xor", "both", "sum", "term":
		return g.toTheLeft(tokens)
	case "not", "minus":
		n := g.trees(tokens, "not", "compare", "minus", "postfix")[0]
		if first[0].row == "" {
			return leaf(map[string]string{"not": "Not", "minus": "Negative"}[g.row], at, "", n)
		}
		return n
	case "compare":
		list := g.trees(tokens, "bits")
		if len(list) == 1 {
			return list[0]
		}
		return leaf("Compare", list[0].At, strings.Join(texts(first[1].parts), " "), list...)
	case "postfix":
		return g.postfix(tokens)
	case "keyword":
		return leaf("Keyword", at, first[0].token.Text, g.trees(tokens, "expr")...)
	case "spread":
		return leaf("Spread", at, "", g.trees(tokens, "expr")...)
	case "pair":
		list := g.trees(tokens, "expr")
		return leaf("Pair", list[0].At, "", list...)
	}
	return g.atom(tokens, at)
}

func texts(parts []growth) (list []string) {
	for _, part := range parts {
		list = append(list, part.token.Text)
	}
	return list
}

// nth is the node of a growth's only part of a row, or a None.
func (g growth) nth(tokens []api.Token, at int, row string) api.Node {
	if list := g.trees(tokens, row); len(list) > 0 {
		return list[0]
	}
	return leaf("None", at, "")
}

func (g growth) compound(tokens []api.Token, at int) api.Node {
	name := ""
	if list := g.namesOf(); len(list) > 0 {
		name = list[0].Text
	}
	block := g.nth(tokens, at, "block")
	switch g.row {
	case "if":
		other := leaf("None", at, "")
		if list := g.rowsOf("else"); len(list) > 0 {
			other = list[0].trees(tokens, "block")[0]
		}
		for _, part := range slices.Backward(g.rowsOf("elif")) {
			at := tokens[part.from].At
			if kindNames[other.Kind] == "None" {
				other.At = at
			}
			other = leaf("Block", at, "", leaf("If", at, "", append(part.trees(tokens, "expr", "block"), other)...))
		}
		return leaf("If", at, "", append(g.trees(tokens, "expr", "block"), other)...)
	case "while":
		return leaf("While", at, "", g.trees(tokens, "expr", "block")...)
	case "for":
		return leaf("For", at, "", g.trees(tokens, "targets", "exprs", "block")...)
	case "def":
		var kids []api.Node
		for _, params := range g.rowsOf("params") {
			kids = params.trees(tokens, "bare", "given", "rest")
		}
		return leaf("Def", at, name, append(kids, block)...)
	case "bare":
		return leaf("Param", at, name, leaf("None", at, ""))
	case "given":
		return leaf("Param", at, name, g.trees(tokens, "expr")...)
	case "rest":
		return leaf("Param", at, name)
	case "class":
		return leaf("Class", at, name, g.nth(tokens, at, "expr"), block)
	case "try":
		return leaf("Try", at, "", g.trees(tokens, "block", "except", "last")...)
	}
	return leaf("Except", at, name, g.nth(tokens, at, "expr"), block)
}

func (g growth) simple(tokens []api.Token, at int) api.Node {
	list := g.trees(tokens, "exprs", "expr", "postfix")
	switch {
	case g.row == "assign" && kindNames[list[0].Kind] == "Tuple":
		list[0].Kind = kindOf("Targets")
		return leaf("Unpack", at, "", list...)
	case g.row == "assign":
		return leaf("Assign", at, "", list...)
	case g.row == "augment":
		sign := g.rowsOf("operator")[0].parts[0].token.Text
		return leaf("Augment", at, strings.TrimSuffix(sign, "="), list...)
	case g.parts[0].row == "names" || g.parts[0].row == "assign" || g.parts[0].row == "augment":
		return g.parts[0].simple(tokens, at)
	case g.parts[0].row == "exprs":
		return leaf("Expr", at, "", list...)
	}
	word := g.parts[0].token.Text
	kind := strings.ToUpper(word[:1]) + word[1:]
	switch kind {
	case "Return", "Raise":
		if len(list) == 0 {
			list = []api.Node{leaf("None", at, "")}
		}
	case "Global", "Nonlocal":
		for _, t := range g.namesOf() {
			list = append(list, leaf("Name", t.At, t.Text))
		}
	}
	return leaf(kind, at, "", list...)
}

func (g growth) toTheLeft(tokens []api.Token) api.Node {
	n := g.parts[0].tree(tokens)
	for i := 1; i < len(g.parts); i += 2 {
		kind, text := "Binary", g.parts[i].token.Text
		if isWord(text) {
			kind, text = strings.ToUpper(text[:1])+text[1:], ""
		}
		n = leaf(kind, n.At, text, n, g.parts[i+1].tree(tokens))
	}
	return n
}

func (g growth) postfix(tokens []api.Token) api.Node {
	n := g.parts[0].tree(tokens)
	for _, part := range g.parts[1:] {
		switch part.row {
		case "attr":
			n = leaf("Attr", n.At, part.namesOf()[0].Text, n)
		case "index":
			n = leaf("Index", n.At, "", append([]api.Node{n}, part.trees(tokens, "exprs")...)...)
		case "call":
			kids := []api.Node{n}
			for _, args := range part.rowsOf("args") {
				kids = append(kids, args.trees(tokens, "expr", "keyword", "spread")...)
			}
			n = leaf("Call", n.At, "", kids...)
		}
	}
	return n
}

func (g growth) atom(tokens []api.Token, at int) api.Node {
	switch first := g.parts[0]; {
	case g.row == "atom" && first.row != "":
		return first.tree(tokens)
	case g.row == "atom" && first.token.Kind == 3:
		n := leaf("Int", at, "")
		n.Num = numberOf(first.token.Text)
		return n
	case g.row == "atom":
		return leaf(map[int]string{1: "Name", 4: "Str", 2: "Const"}[first.token.Kind], at, first.token.Text)
	}
	list := g.trees(tokens, "expr", "item", "pair")
	for _, comp := range g.rowsOf("comp") {
		list = append(list, comp.trees(tokens, "targets", "or")...)
	}
	switch g.row {
	case "inner":
		return list[0]
	case "tuple":
		return leaf("Tuple", at, "", list...)
	case "list":
		return leaf("List", at, "", list...)
	case "set":
		return leaf("Set", at, "", list...)
	case "dict":
		return leaf("Dict", at, "", list...)
	case "listcomp":
		return leaf("ListComp", at, "", list...)
	case "setcomp":
		return leaf("SetComp", at, "", list...)
	case "dictcomp":
		return leaf("DictComp", at, "", list...)
	}
	panic("no tree of " + g.row)
}

// same tells whether two trees are one, places too.
func same(a, b api.Node) bool {
	return a.Kind == b.Kind && a.At == b.At && a.Text == b.Text && a.Num.Neg == b.Num.Neg &&
		slices.Equal(a.Num.Mag, b.Num.Mag) && slices.EqualFunc(a.Kids, b.Kids, same)
}

// tell is all of a tree in one line, as the chapter's examples write it: a
// Name by its Text, an Int by its number, with the places or without.
func tell(n api.Node, places bool) string {
	var out strings.Builder
	tellTo(&out, n, places)
	return out.String()
}

func tellTo(out *strings.Builder, n api.Node, places bool) {
	name := kindNames[n.Kind]
	switch {
	case name == "" || n.Num.Neg || len(n.Num.Mag) > 0 && name != "Int":
		fmt.Fprintf(out, "?%d %v", n.Kind, n.Num)
	case name == "Name" && len(n.Kids) == 0:
		out.WriteString(n.Text)
	case name == "Int" && n.Text == "":
		v := new(big.Int)
		for _, word := range slices.Backward(n.Num.Mag) {
			v.Add(v.Lsh(v, 32), big.NewInt(int64(word)))
		}
		out.WriteString(v.String())
	case name == "Str":
		fmt.Fprintf(out, "%q", n.Text)
	default:
		out.WriteString(strings.TrimSpace(name + " " + n.Text))
	}
	if places {
		fmt.Fprint(out, "@", n.At)
	}
	for i, kid := range n.Kids {
		out.WriteString([]string{"(", ", "}[min(i, 1)])
		tellTo(out, kid, places)
	}
	if len(n.Kids) > 0 {
		out.WriteString(")")
	}
}

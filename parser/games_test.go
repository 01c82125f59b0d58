package parser_test

import (
	"math/rand"
	"slices"
	"strings"

	"lexicon/api"
)

// A gardener grows tokens and trees by chance. What it has grown when it has
// no tokens left is ended as soon as can be.
type gardener struct {
	*rand.Rand
	left *int
}

func newGardener(seed int) gardener {
	return gardener{rand.New(rand.NewSource(int64(seed))), new(int)}
}

func (g gardener) pick(list string) string {
	words := strings.Fields(list)
	return words[g.Intn(len(words))]
}

// steps is how many rows stand within one another at least, in what an element
// grows to.
var steps = leastSteps()

func leastSteps() []int {
	least := slices.Repeat([]int{1000}, len(theRules.rows))
	for range theRules.rows {
		for i, row := range theRules.rows {
			least[i] = min(least[i], 1+elementSteps(row, least))
		}
	}
	return least
}

func elementSteps(e element, least []int) int {
	switch e.form {
	case 'r':
		return least[e.row]
	case '(':
		best := 1000
		for _, way := range e.ways {
			best = min(best, waySteps(way, least))
		}
		return best
	}
	return 0
}

func waySteps(way []element, least []int) int {
	most := 0
	for _, e := range way {
		most = max(most, elementSteps(e, least))
	}
	return most
}

// sprout is tokens of an element, room being how many rows may stand within
// one another.
func (g gardener) sprout(e element, room int) []api.Token {
	if *g.left <= 0 {
		room = 0
	}
	switch e.form {
	case 't':
		*g.left--
		return []api.Token{{Kind: e.kind, Text: e.text}}
	case 'k':
		*g.left--
		return []api.Token{{Kind: e.kind, Text: g.textOf(e.text)}}
	case 'r':
		return g.sproutRow(e.row, room-1)
	case '[':
		if room > 0 && g.Intn(3) == 0 {
			return g.sproutWays(e, room)
		}
		return nil
	case '{':
		var list []api.Token
		for room > 0 && g.Intn(4) == 0 {
			list = append(list, g.sproutWays(e, room)...)
		}
		return list
	}
	return g.sproutWays(e, room)
}

// sproutRow grows targets where they are wanted, for the most part.
func (g gardener) sproutRow(row, room int) []api.Token {
	name := theRules.names[row]
	if name == "assign" || name == "augment" || name == "targets" || name == "operator" {
		if g.Intn(8) > 0 {
			return g.sproutTargets(name, row, room)
		}
	}
	return g.sprout(theRules.rows[row], room)
}

func (g gardener) sproutTargets(name string, row, room int) []api.Token {
	exprs := func() []api.Token { return g.sproutRow(theRules.number("exprs"), room-1) }
	sign := []api.Token{{Kind: 5, Text: "="}}
	switch name {
	case "assign":
		left := g.sproutTargets("targets", 0, room)
		if g.Intn(4) == 0 {
			left = slices.Concat([]api.Token{{Kind: 5, Text: "("}}, left, []api.Token{{Kind: 5, Text: ")"}})
		}
		return slices.Concat(left, sign, exprs())
	case "augment":
		return slices.Concat(g.sproutTarget(room), g.sproutRow(theRules.number("operator"), room), exprs())
	case "operator":
		return g.sprout(theRules.rows[row], room)
	}
	list := g.sproutTarget(room)
	for g.Intn(3) == 0 {
		list = slices.Concat(list, []api.Token{{Kind: 5, Text: ","}}, g.sproutTarget(room))
	}
	return list
}

func (g gardener) sproutTarget(room int) []api.Token {
	name := func() []api.Token { return g.sprout(element{form: 'k', kind: 1, text: "NAME"}, 0) }
	if room <= 10 {
		return name()
	}
	told := g.sproutRow(theRules.number("atom"), room-2)
	switch g.Intn(4) {
	case 0:
		return slices.Concat(told, g.sproutRow(theRules.number("attr"), room-2))
	case 1:
		return slices.Concat(told, g.sproutRow(theRules.number("index"), room-2))
	}
	return name()
}

// sproutWays takes a way that the room is enough for, or the shortest.
func (g gardener) sproutWays(e element, room int) []api.Token {
	var able [][]element
	best, shortest := 1000, 0
	for i, way := range e.ways {
		n := waySteps(way, steps)
		if n < best {
			best, shortest = n, i
		}
		if n <= room {
			able = append(able, way)
		}
	}
	way := e.ways[shortest]
	if len(able) > 0 {
		way = able[g.Intn(len(able))]
	}
	var list []api.Token
	for _, part := range way {
		list = append(list, g.sprout(part, room)...)
	}
	return list
}

func (g gardener) textOf(kind string) string {
	switch kind {
	case "NAME":
		return g.name()
	case "INT":
		return g.pick("0 1 7 10 4294967295 4294967296 18446744073709551616 99999999999999999999999999")
	case "STR":
		return []string{"", "a", "it's", "\n\t\x00", "\u00f1\u2028", "(", "=", "not", "\\"}[g.Intn(9)]
	}
	return ""
}

func (g gardener) name() string { return g.pick("a b c x y _ __eq__ None1 iff A_9 self print") }

// module is the tokens of one, at places by chance.
func (g gardener) module(room int) []api.Token {
	var list []api.Token
	*g.left = 60
	for range 1 + g.Intn(4) {
		list = append(list, g.sproutRow(theRules.number("stmt"), room)...)
	}
	list = append(list, api.Token{Kind: 9})
	g.place(list)
	return list
}

// place gives tokens rising places, some of them with others on one place.
func (g gardener) place(list []api.Token) {
	at := g.Intn(5) - 2
	for i := range list {
		list[i].At = at
		at += g.Intn(4)
	}
}

// written is a source whose tokens are these.
func written(list []api.Token, quote func(string) string) string {
	var out strings.Builder
	depth, begun := 0, false
	for _, t := range list {
		switch t.Kind {
		case 6:
			out.WriteString("\n")
			begun = false
			continue
		case 7:
			depth++
			continue
		case 8:
			depth--
			continue
		case 9:
			continue
		}
		if !begun {
			out.WriteString(strings.Repeat(" ", depth))
		} else {
			out.WriteString(" ")
		}
		begun = true
		if t.Kind == 4 {
			out.WriteString(quote(t.Text))
		} else {
			out.WriteString(t.Text)
		}
	}
	return out.String()
}

// vocabulary is a token of each kind, word and sign, and tokens that can stand
// nowhere.
func vocabulary() []api.Token {
	list := []api.Token{{Kind: 1, Text: "n"}, {Kind: 3, Text: "5"}, {Kind: 4, Text: "s"}, {Kind: 6}, {Kind: 7}, {Kind: 8}, {Kind: 9}}
	for _, word := range strings.Fields(wordList) {
		list = append(list, api.Token{Kind: 2, Text: word})
	}
	for _, sign := range strings.Fields("( ) [ ] { } , : . = == != < <= > >= + += - -= * *= ** // //= % %= & &= | |= ^ ^=") {
		list = append(list, api.Token{Kind: 5, Text: sign})
	}
	return append(list, nowhere()...)
}

// nowhere is tokens that no lexer made, and that can stand nowhere.
func nowhere() []api.Token {
	return []api.Token{
		{}, {Kind: 99}, {Kind: -1, Text: "a"}, {Kind: 10},
		{Kind: 1}, {Kind: 1, Text: "if"}, {Kind: 1, Text: "None"}, {Kind: 1, Text: "a b"}, {Kind: 1, Text: "1a"}, {Kind: 1, Text: "a\u00f1"}, {Kind: 1, Text: "="},
		{Kind: 2}, {Kind: 2, Text: "a"}, {Kind: 2, Text: "("}, {Kind: 2, Text: "="}, {Kind: 2, Text: "none"},
		{Kind: 3}, {Kind: 3, Text: "-1"}, {Kind: 3, Text: "-0"}, {Kind: 3, Text: "-"}, {Kind: 3, Text: "07"}, {Kind: 3, Text: "+1"}, {Kind: 3, Text: "1a"}, {Kind: 3, Text: " 1"}, {Kind: 3, Text: strings.Repeat("9", 2467)},
		{Kind: 4, Text: "\xff"}, {Kind: 4, Text: "a\xc3"},
		{Kind: 5}, {Kind: 5, Text: "if"}, {Kind: 5, Text: "a"}, {Kind: 5, Text: "**="}, {Kind: 5, Text: "!"}, {Kind: 5, Text: "None"}, {Kind: 5, Text: "<>"},
	}
}

// twist is tokens of which one or two were changed by chance.
func (g gardener) twist(list []api.Token) []api.Token {
	list = slices.Clone(list)
	words := vocabulary()
	for range 1 + g.Intn(2) {
		i := g.Intn(len(list) + 1)
		t := words[g.Intn(len(words))]
		t.At = 1000 + g.Intn(100)
		switch g.Intn(5) {
		case 0:
			list = slices.Insert(list, i, t)
		case 1:
			list = list[:i]
		case 2:
			list = slices.Delete(list, i, min(i+1, len(list)))
		case 3:
			if i < len(list) {
				list[i] = t
			}
		case 4:
			if j := g.Intn(len(list) + 1); i < len(list) && j < len(list) {
				list[i], list[j] = list[j], list[i]
			}
		}
	}
	return list
}

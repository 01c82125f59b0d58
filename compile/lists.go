package compile

import (
	"slices"

	"lexicon/api"
)

// lists is the constants and the names of a program, as far as it is laid.
type lists struct {
	consts  []api.Const
	names   []string
	constAt map[identity]int
	nameAt  map[string]int
}

// identity is what tells a constant from others.
type identity struct {
	kind int
	text string
}

func newLists() *lists {
	return &lists{constAt: map[identity]int{}, nameAt: map[string]int{}}
}

// constant is the number of a constant, which is laid behind the others, if it
// is told for the first time.
func (l *lists) constant(c api.Const) int {
	key := identityOf(c)
	at, known := l.constAt[key]
	if !known {
		at = len(l.consts)
		l.constAt[key] = at
		c.Num.Mag = slices.Clone(c.Num.Mag)
		l.consts = append(l.consts, c)
	}
	return at
}

// name is likewise of a name.
func (l *lists) name(name string) int {
	at, known := l.nameAt[name]
	if !known {
		at = len(l.names)
		l.nameAt[name] = at
		l.names = append(l.names, name)
	}
	return at
}

// identityOf takes a number's words as bytes: its digits would take their time.
func identityOf(c api.Const) identity {
	switch c.Kind {
	case api.ValBool:
		if c.Bool {
			return identity{c.Kind, "True"}
		}
		return identity{c.Kind, "False"}
	case api.ValInt:
		return identity{c.Kind, wordsOf(c.Num)}
	}
	return identity{c.Kind, c.Text}
}

// wordsOf is of a number that is not below 0: there is no other one in a tree.
func wordsOf(n api.Int) string {
	bytes := make([]byte, 0, 4*len(n.Mag))
	for _, word := range n.Mag {
		bytes = append(bytes, byte(word), byte(word>>8), byte(word>>16), byte(word>>24))
	}
	return string(bytes)
}

// constantOf is what an Int, a Str or a Const says.
func constantOf(p *part) api.Const {
	switch p.kind {
	case api.NodeInt:
		return api.Const{Kind: api.ValInt, Num: p.num}
	case api.NodeStr:
		return str(p.text)
	}
	if p.text == "None" {
		return none()
	}
	return api.Const{Kind: api.ValBool, Bool: p.text == "True"}
}

func none() api.Const { return api.Const{Kind: api.ValNone} }

func str(text string) api.Const { return api.Const{Kind: api.ValStr, Text: text} }

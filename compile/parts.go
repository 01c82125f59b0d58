package compile

import (
	"lexicon/api"
)

// A part is a node, with the number of the scope that it is. Scopes have their
// numbers in the order of the tree, which is not that in which code is laid: so
// they are given ahead of it. (One list of Kids may stand at several places of a
// tree: so a node of it can't tell its number, a part can.)
type part struct {
	kind  int
	text  string
	num   api.Int
	kids  []part
	scope int // of a Module, a Def, a Class, a comprehension
}

// scopeParts is the parts that are scopes, by their numbers.
func scopeParts(n *api.Node) []*part {
	var scopes []*part
	var fill func(p *part, n *api.Node)
	fill = func(p *part, n *api.Node) {
		p.kind, p.text, p.num = n.Kind, n.Text, n.Num
		if isScope(n.Kind) {
			p.scope = len(scopes)
			scopes = append(scopes, p)
		}
		p.kids = make([]part, len(n.Kids))
		for i := range n.Kids {
			fill(&p.kids[i], &n.Kids[i])
		}
	}
	fill(&part{}, n)
	return scopes
}

func isScope(kind int) bool {
	switch kind {
	case api.NodeModule, api.NodeDef, api.NodeClass, api.NodeListComp, api.NodeSetComp, api.NodeDictComp:
		return true
	}
	return false
}

// kid is one of the kids, the first one being 0.
func (p *part) kid(i int) *part { return &p.kids[i] }

// last is the last kid: of a Def its Block.
func (p *part) last() *part { return &p.kids[len(p.kids)-1] }

// params is what stands ahead of a Def's Block.
func (p *part) params() []part { return p.kids[:len(p.kids)-1] }

// hasDefault asks a Param: one that has no kid has none either.
func (p *part) hasDefault() bool {
	return len(p.kids) > 0 && p.kids[0].kind != api.NodeNone
}

package parser

import (
	"strings"

	"lexicon/api"
	"lexicon/letters"
	"lexicon/whole"
)

func (r *reader) postfix() *api.Node {
	n := r.atom()
	for {
		switch {
		case r.takes("("):
			n = node(api.NodeCall, n.At, r.args(n)...)
			r.need(")")
		case r.takes("."):
			n = named(api.NodeAttr, r.name().Text, n.At, n)
		case r.takes("["):
			n = node(api.NodeIndex, n.At, n, r.exprs())
			r.need("]")
		default:
			return n
		}
	}
}

// The kinds of args, in the order in which they stand.
const (
	argPlain = iota
	argKeyword
	argSpread
)

// args is what is called, and the args behind it.
func (r *reader) args(called *api.Node) []*api.Node {
	list := []*api.Node{called}
	last := argPlain
	for r.beginsItem() {
		kind := r.argKind()
		if kind < last || last == argSpread {
			r.refuse()
		}
		last = kind
		list = append(list, r.arg(kind))
		if !r.takes(",") {
			break
		}
	}
	return list
}

// argKind is that of the arg that begins here.
func (r *reader) argKind() int {
	switch {
	case r.sees("**"):
		return argSpread
	case r.look().Kind == api.TokenName && isMark(r.ahead(1), "="):
		return argKeyword
	}
	return argPlain
}

func (r *reader) arg(kind int) *api.Node {
	switch kind {
	case argSpread:
		return r.spread()
	case argKeyword:
		name := r.name()
		r.need("=")
		return named(api.NodeKeyword, name.Text, name.At, r.expr())
	}
	return r.expr()
}

func (r *reader) spread() *api.Node {
	at := r.skip().At
	return node(api.NodeSpread, at, r.expr())
}

func (r *reader) atom() *api.Node {
	switch t := r.look(); {
	case t.Kind == api.TokenName:
		return r.nameNode()
	case t.Kind == api.TokenInt:
		return r.number()
	case t.Kind == api.TokenStr:
		return r.text()
	case r.sees("None", "True", "False"):
		r.skip()
		return named(api.NodeConst, t.Text, t.At)
	case r.sees("("):
		return r.round()
	case r.sees("["):
		return r.square()
	case r.sees("{"):
		return r.curly()
	}
	r.refuse()
	return nil
}

func (r *reader) nameNode() *api.Node {
	name := r.name()
	return named(api.NodeName, name.Text, name.At)
}

func (r *reader) number() *api.Node {
	t := r.look()
	num, why := whole.Parse(t.Text)
	if why != api.OK || strings.HasPrefix(t.Text, "-") {
		r.refuse()
	}
	r.skip()
	return &api.Node{Kind: api.NodeInt, At: t.At, Num: num}
}

func (r *reader) text() *api.Node {
	t := r.look()
	if !letters.Good(t.Text) {
		r.refuse()
	}
	r.skip()
	return named(api.NodeStr, t.Text, t.At)
}

// round is a Tuple, or the one expression that stands in brackets.
func (r *reader) round() *api.Node {
	at := r.skip().At
	if r.takes(")") {
		return node(api.NodeTuple, at)
	}
	n := r.expr()
	if r.sees(",") {
		n = node(api.NodeTuple, at, r.more(n, r.beginsExpr, r.expr)...)
	}
	r.need(")")
	return n
}

func (r *reader) square() *api.Node {
	at := r.skip().At
	if r.takes("]") {
		return node(api.NodeList, at)
	}
	n := r.expr()
	if r.sees("for") {
		n = r.comp(api.NodeListComp, at, n)
	} else {
		n = node(api.NodeList, at, r.more(n, r.beginsExpr, r.expr)...)
	}
	r.need("]")
	return n
}

func (r *reader) curly() *api.Node {
	at := r.skip().At
	if r.takes("}") {
		return node(api.NodeDict, at)
	}
	n := r.inCurly(at)
	r.need("}")
	return n
}

// inCurly is what the first thing in the brackets makes of all: a Pair or a
// Spread makes a Dict, anything else a Set.
func (r *reader) inCurly(at int) *api.Node {
	if r.sees("**") {
		return r.dict(at, r.spread())
	}
	n := r.expr()
	if r.sees(":") {
		return r.dict(at, r.pair(n))
	}
	if r.sees("for") {
		return r.comp(api.NodeSetComp, at, n)
	}
	return node(api.NodeSet, at, r.more(n, r.beginsExpr, r.expr)...)
}

// dict is one whose first item has been read.
func (r *reader) dict(at int, first *api.Node) *api.Node {
	if first.Kind == api.NodePair && r.sees("for") {
		return r.comp(api.NodeDictComp, at, first)
	}
	return node(api.NodeDict, at, r.more(first, r.beginsItem, r.item)...)
}

func (r *reader) beginsItem() bool {
	return r.sees("**") || r.beginsExpr()
}

func (r *reader) item() *api.Node {
	if r.sees("**") {
		return r.spread()
	}
	return r.pair(r.expr())
}

// pair is one whose key has been read.
func (r *reader) pair(key *api.Node) *api.Node {
	r.need(":")
	return node(api.NodePair, key.At, key, r.expr())
}

// comp is a comprehension of what has been read.
func (r *reader) comp(kind, at int, what *api.Node) *api.Node {
	r.need("for")
	kids := []*api.Node{what, r.targets()}
	r.need("in")
	kids = append(kids, r.or())
	for r.takes("if") {
		kids = append(kids, r.or())
	}
	return node(kind, at, kids...)
}

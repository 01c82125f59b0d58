package parser

import (
	"lexicon/api"
)

// beginsExpr tells whether the token that is looked at may begin an
// expression.
func (r *reader) beginsExpr() bool {
	switch r.look().Kind {
	case api.TokenName, api.TokenInt, api.TokenStr:
		return true
	}
	return r.sees("None", "True", "False", "not", "-", "(", "[", "{")
}

func (r *reader) exprs() *api.Node {
	first := r.expr()
	if !r.sees(",") {
		return first
	}
	return node(api.NodeTuple, first.At, r.more(first, r.beginsExpr, r.expr)...)
}

// more is a list whose first one has been read: {, one} [,].
func (r *reader) more(first *api.Node, begins func() bool, one func() *api.Node) []*api.Node {
	list := []*api.Node{first}
	for r.takes(",") && begins() {
		list = append(list, one())
	}
	return list
}

func (r *reader) expr() *api.Node {
	chosen := r.or()
	if !r.takes("if") {
		return chosen
	}
	test := r.or()
	r.need("else")
	return node(api.NodeChoose, chosen.At, chosen, test, r.expr())
}

// left is a row whose operators hold to the left: one of the row below, and
// any number more of it, each behind one of the signs. A Binary has its sign;
// of the others the kind says it.
func (r *reader) left(kind int, below func() *api.Node, signs ...string) *api.Node {
	n := below()
	for r.sees(signs...) {
		text := ""
		if sign := r.skip().Text; kind == api.NodeBinary {
			text = sign
		}
		n = named(kind, text, n.At, n, below())
	}
	return n
}

func (r *reader) or() *api.Node { return r.left(api.NodeOr, r.and, "or") }

func (r *reader) and() *api.Node { return r.left(api.NodeAnd, r.not, "and") }

func (r *reader) not() *api.Node {
	if !r.sees("not") {
		return r.compare()
	}
	at := r.skip().At
	return node(api.NodeNot, at, r.not())
}

func (r *reader) compare() *api.Node {
	a := r.bits()
	comparison := r.comparison()
	if comparison == "" {
		return a
	}
	return named(api.NodeCompare, comparison, a.At, a, r.bits())
}

// comparison is the operator of a Compare, nothing if none stands there.
func (r *reader) comparison() string {
	switch {
	case r.takes("not"):
		r.need("in")
		return "not in"
	case r.takes("is"):
		if r.takes("not") {
			return "is not"
		}
		return "is"
	case r.sees("==", "!=", "<", "<=", ">", ">=", "in"):
		return r.skip().Text
	}
	return ""
}

func (r *reader) bits() *api.Node { return r.left(api.NodeBinary, r.xor, "|") }

func (r *reader) xor() *api.Node { return r.left(api.NodeBinary, r.both, "^") }

func (r *reader) both() *api.Node { return r.left(api.NodeBinary, r.sum, "&") }

func (r *reader) sum() *api.Node { return r.left(api.NodeBinary, r.term, "+", "-") }

func (r *reader) term() *api.Node { return r.left(api.NodeBinary, r.minus, "*", "//", "%") }

func (r *reader) minus() *api.Node {
	if !r.sees("-") {
		return r.postfix()
	}
	at := r.skip().At
	return node(api.NodeNegative, at, r.minus())
}

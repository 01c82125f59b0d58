package parser

import (
	"strings"

	"lexicon/api"
	"lexicon/tree"
)

func (r *reader) module() *api.Node {
	var list []*api.Node
	for r.look().Kind != api.TokenEnd {
		list = append(list, r.stmt())
	}
	return node(api.NodeModule, 0, blockOf(list))
}

// blockOf is statements in a Block.
func blockOf(list []*api.Node) *api.Node {
	if len(list) == 0 {
		return node(api.NodeBlock, 0)
	}
	return node(api.NodeBlock, list[0].At, list...)
}

func (r *reader) stmt() *api.Node {
	switch {
	case r.sees("if"):
		return r.ifElse()
	case r.sees("while"):
		return r.while()
	case r.sees("for"):
		return r.forIn()
	case r.sees("def"):
		return r.def()
	case r.sees("class"):
		return r.class()
	case r.sees("try"):
		return r.try()
	}
	n := r.simple()
	r.needKind(api.TokenNewline)
	return n
}

func (r *reader) block() *api.Node {
	r.need(":")
	r.needKind(api.TokenNewline)
	r.needKind(api.TokenIndent)
	list := []*api.Node{r.stmt()}
	for r.look().Kind != api.TokenDedent {
		list = append(list, r.stmt())
	}
	r.skip()
	return blockOf(list)
}

// ifElse begins at an elif, too: that makes an If of its own.
func (r *reader) ifElse() *api.Node {
	at := r.skip().At
	test := r.expr()
	block := r.block()
	return node(api.NodeIf, at, test, block, r.other(at))
}

// other is what stands behind the block of an If at that place.
func (r *reader) other(at int) *api.Node {
	if r.sees("elif") {
		return blockOf([]*api.Node{r.ifElse()})
	}
	if r.takes("else") {
		return r.block()
	}
	return none(at)
}

func (r *reader) while() *api.Node {
	at := r.skip().At
	test := r.expr()
	return node(api.NodeWhile, at, test, r.block())
}

func (r *reader) forIn() *api.Node {
	at := r.skip().At
	targets := r.targets()
	r.need("in")
	through := r.exprs()
	return node(api.NodeFor, at, targets, through, r.block())
}

func (r *reader) def() *api.Node {
	at := r.skip().At
	name := r.name().Text
	r.need("(")
	kids := r.params()
	r.need(")")
	return named(api.NodeDef, name, at, append(kids, r.block())...)
}

func (r *reader) params() []*api.Node {
	var list []*api.Node
	given := false // whether one with a default stands ahead
	for r.look().Kind == api.TokenName {
		param := r.param(given)
		given = param.Kids[0].Kind != api.NodeNone
		list = append(list, param)
		if !r.takes(",") {
			return list
		}
	}
	if r.sees("**") {
		at := r.skip().At
		list = append(list, named(api.NodeParam, r.name().Text, at))
		r.takes(",")
	}
	return list
}

// param is refused without a default, if one with a default stands ahead.
func (r *reader) param(given bool) *api.Node {
	name := r.name()
	kid := none(name.At)
	if r.takes("=") {
		kid = r.expr()
	} else if given {
		giveUp(api.FaultSyntax, name.At)
	}
	return named(api.NodeParam, name.Text, name.At, kid)
}

func (r *reader) class() *api.Node {
	at := r.skip().At
	name := r.name().Text
	base := none(at)
	if r.takes("(") {
		base = r.expr()
		r.need(")")
	}
	return named(api.NodeClass, name, at, base, r.block())
}

func (r *reader) try() *api.Node {
	at := r.skip().At
	kids := []*api.Node{r.block()}
	last := false // whether none may come any more
	for len(kids) == 1 || r.sees("except") {
		if last {
			r.refuse()
		}
		except := r.except()
		last = except.Kids[0].Kind == api.NodeNone
		kids = append(kids, except)
	}
	return node(api.NodeTry, at, kids...)
}

func (r *reader) except() *api.Node {
	at := r.look().At
	r.need("except")
	class, name := none(at), ""
	if r.beginsExpr() {
		class = r.expr()
		if r.takes("as") {
			name = r.name().Text
		}
	}
	return named(api.NodeExcept, name, at, class, r.block())
}

func (r *reader) simple() *api.Node {
	switch {
	case r.sees("pass"):
		return node(api.NodePass, r.skip().At)
	case r.sees("break"):
		return node(api.NodeBreak, r.skip().At)
	case r.sees("continue"):
		return node(api.NodeContinue, r.skip().At)
	case r.sees("return"):
		return r.leave(api.NodeReturn, r.exprs)
	case r.sees("raise"):
		return r.leave(api.NodeRaise, r.expr)
	case r.sees("global"):
		return r.declare(api.NodeGlobal)
	case r.sees("nonlocal"):
		return r.declare(api.NodeNonlocal)
	case r.sees("del"):
		return r.del()
	}
	return r.assign()
}

// leave is a word with or without something behind it.
func (r *reader) leave(kind int, behind func() *api.Node) *api.Node {
	at := r.skip().At
	if !r.beginsExpr() {
		return node(kind, at, none(at))
	}
	return node(kind, at, behind())
}

func (r *reader) declare(kind int) *api.Node {
	at := r.skip().At
	list := []*api.Node{r.nameNode()}
	for r.takes(",") {
		list = append(list, r.nameNode())
	}
	return node(kind, at, list...)
}

func (r *reader) del() *api.Node {
	at := r.skip().At
	target := r.postfix()
	needTarget(target)
	return node(api.NodeDel, at, target)
}

// assign is an expression, too, with nothing given to it.
func (r *reader) assign() *api.Node {
	at := r.look().At
	left := r.exprs()
	switch {
	case r.sees("="):
		return r.give(at, left)
	case r.sees("+=", "-=", "*=", "//=", "%=", "&=", "|=", "^="):
		return r.augment(at, left)
	}
	return node(api.NodeExpr, at, left)
}

func (r *reader) give(at int, left *api.Node) *api.Node {
	kind := api.NodeAssign
	if areTargets(left) {
		kind, left.Kind = api.NodeUnpack, api.NodeTargets
	} else {
		needTarget(left)
	}
	r.skip()
	return node(kind, at, left, r.exprs())
}

func (r *reader) augment(at int, left *api.Node) *api.Node {
	needTarget(left)
	operator := strings.TrimSuffix(r.skip().Text, "=")
	return named(api.NodeAugment, operator, at, left, r.exprs())
}

func needTarget(n *api.Node) {
	if !tree.IsTarget(*n) {
		giveUp(api.FaultTarget, n.At)
	}
}

// areTargets tells whether a node is a Tuple that something can be unpacked
// to.
func areTargets(n *api.Node) bool {
	if n.Kind != api.NodeTuple || len(n.Kids) < 2 {
		return false
	}
	for _, kid := range n.Kids {
		if !tree.IsTarget(kid) {
			return false
		}
	}
	return true
}

// targets looks for what is none of them behind the last one, not ahead.
func (r *reader) targets() *api.Node {
	list := []*api.Node{r.postfix()}
	for r.takes(",") {
		list = append(list, r.postfix())
	}
	for _, n := range list {
		needTarget(n)
	}
	if len(list) == 1 {
		return list[0]
	}
	return node(api.NodeTargets, list[0].At, list...)
}

package compile

import (
	"lexicon/api"
)

func (w *writer) expressions(list []part) {
	for i := range list {
		w.expression(&list[i])
	}
}

func (w *writer) expression(n *part) {
	switch n.kind {
	case api.NodeName:
		w.load(n.text)
	case api.NodeInt, api.NodeStr, api.NodeConst:
		w.constant(constantOf(n))
	case api.NodeSet, api.NodeDict:
		w.braces(n)
	case api.NodeChoose:
		w.choose(n)
	case api.NodeOr:
		w.short(n, api.OpOr)
	case api.NodeAnd:
		w.short(n, api.OpAnd)
	case api.NodeCall:
		w.call(n)
	case api.NodeListComp, api.NodeSetComp, api.NodeDictComp:
		w.within(n, 0)
		w.expression(n.kid(2))
		w.plain(api.OpIter)
		w.lay(api.OpCall, 1, 0)
	default:
		w.operation(n)
	}
}

// operation is of what takes the values of its kids, all of them, at once.
func (w *writer) operation(n *part) {
	w.expressions(n.kids)
	switch n.kind {
	case api.NodeTuple:
		w.lay(api.OpTuple, len(n.kids), 0)
	case api.NodeList:
		w.lay(api.OpList, len(n.kids), 0)
	case api.NodeNot:
		w.plain(api.OpNot)
	case api.NodeNegative:
		w.plain(api.OpNegative)
	case api.NodeCompare:
		w.lay(api.OpCompare, comparison(n.text), 0)
	case api.NodeBinary:
		w.lay(api.OpBinary, operator(n.text), 0)
	case api.NodeAttr:
		w.named(api.OpLoadAttr, n.text)
	case api.NodeIndex:
		w.plain(api.OpLoadIndex)
	}
}

// braces puts each item in as soon as it is there: so an item takes its room on
// the stack for itself alone.
func (w *writer) braces(n *part) {
	w.plain(bracesOf(n.kind))
	for i := range n.kids {
		switch item := n.kid(i); item.kind {
		case api.NodePair:
			w.expressions(item.kids)
			w.lay(api.OpAddPair, 1, 0)
		case api.NodeSpread:
			w.expression(item.kid(0))
			w.lay(api.OpMerge, 1, 0)
		default:
			w.expression(item)
			w.lay(api.OpAddItem, 1, 0)
		}
	}
}

func bracesOf(kind int) int {
	if kind == api.NodeSet {
		return api.OpSet
	}
	return api.OpDict
}

func (w *writer) choose(n *part) {
	otherwise, end := &place{}, &place{}
	defer w.land(end)
	w.expression(n.kid(1))
	w.lead(api.OpIfNot, otherwise)
	w.expression(n.kid(0))
	w.lead(api.OpJump, end)
	w.land(otherwise)
	w.expression(n.kid(2))
}

// short is of an Or, an And, whose second kid may be gone past.
func (w *writer) short(n *part, op int) {
	end := &place{}
	defer w.land(end)
	w.expression(n.kid(0))
	w.lead(op, end)
	w.expression(n.kid(1))
}

// call gathers the keywords, if there are any, in a dict on top of the
// arguments.
func (w *writer) call(n *part) {
	arguments, keywords := -1, 0 // what is called is no argument
	for i := range n.kids {
		kid := n.kid(i)
		named := kid.kind == api.NodeKeyword || kid.kind == api.NodeSpread
		if named && keywords == 0 {
			w.plain(api.OpDict)
			keywords = 1
		}
		switch kid.kind {
		case api.NodeKeyword:
			w.constant(str(kid.text))
			w.expression(kid.kid(0))
			w.lay(api.OpAddPair, 1, 0)
		case api.NodeSpread:
			w.expression(kid.kid(0))
			w.lay(api.OpKeyword, 1, 0)
		default:
			w.expression(kid)
			arguments++
		}
	}
	w.lay(api.OpCall, arguments, keywords)
}

func operator(sign string) int {
	switch sign {
	case "+":
		return api.BinAdd
	case "-":
		return api.BinSub
	case "*":
		return api.BinMul
	case "//":
		return api.BinDiv
	case "%":
		return api.BinMod
	case "&":
		return api.BinAnd
	case "|":
		return api.BinOr
	}
	return api.BinXor
}

func comparison(sign string) int {
	switch sign {
	case "==":
		return api.CompEq
	case "!=":
		return api.CompNe
	case "<":
		return api.CompLt
	case "<=":
		return api.CompLe
	case ">":
		return api.CompGt
	case ">=":
		return api.CompGe
	case "in":
		return api.CompIn
	case "not in":
		return api.CompNotIn
	case "is":
		return api.CompIs
	}
	return api.CompIsNot
}

package tree

import (
	"lexicon/api"
	"lexicon/letters"
	"lexicon/whole"
)

// part lays an expression, or what stands among expressions.
func (w *writer) part(n api.Node) { w.former(n.Kind)(n) }

// parts lays them with a comma and a blank between.
func (w *writer) parts(list []api.Node) {
	for i, n := range list {
		if i > 0 {
			w.put(", ")
		}
		w.part(n)
	}
}

func (w *writer) enclose(open string, list []api.Node, end string) {
	w.put(open)
	w.parts(list)
	w.put(end)
}

// former finds what lays a part.
func (w *writer) former(kind int) func(api.Node) {
	switch kind {
	case api.NodeInt:
		return w.number
	case api.NodeStr:
		return w.quoted
	case api.NodeTuple:
		return w.tuple
	case api.NodeList:
		return w.list
	case api.NodeSet, api.NodeDict:
		return w.braces
	case api.NodePair:
		return w.pair
	case api.NodeSpread:
		return w.spread
	case api.NodeListComp:
		return w.listComp
	case api.NodeSetComp, api.NodeDictComp:
		return w.braceComp
	case api.NodeChoose:
		return w.choose
	case api.NodeOr, api.NodeAnd, api.NodeCompare, api.NodeBinary:
		return w.between
	case api.NodeNot, api.NodeNegative:
		return w.ahead
	case api.NodeCall:
		return w.call
	case api.NodeKeyword:
		return w.keyword
	case api.NodeAttr:
		return w.attr
	case api.NodeIndex:
		return w.index
	case api.NodeTargets:
		return w.targets
	case api.NodeParam:
		return w.param
	}
	return w.named
}

func (w *writer) named(n api.Node) { w.put(n.Text) }

func (w *writer) number(n api.Node) { w.put(whole.Text(n.Num)) }

func (w *writer) quoted(n api.Node) { w.put(letters.Quote(n.Text)) }

func (w *writer) tuple(n api.Node) {
	end := ")"
	if len(n.Kids) == 1 {
		end = ",)"
	}
	w.enclose("(", n.Kids, end)
}

func (w *writer) list(n api.Node) { w.enclose("[", n.Kids, "]") }

func (w *writer) braces(n api.Node) { w.enclose("{", n.Kids, "}") }

func (w *writer) targets(n api.Node) { w.parts(n.Kids) }

func (w *writer) pair(n api.Node) {
	w.part(n.Kids[0])
	w.put(": ")
	w.part(n.Kids[1])
}

func (w *writer) spread(n api.Node) {
	w.put("**")
	w.part(n.Kids[0])
}

func (w *writer) listComp(n api.Node) {
	w.put("[")
	w.comp(n)
	w.put("]")
}

func (w *writer) braceComp(n api.Node) {
	w.put("{")
	w.comp(n)
	w.put("}")
}

func (w *writer) comp(n api.Node) {
	w.part(n.Kids[0])
	w.put(" for ")
	w.part(n.Kids[1])
	w.put(" in ")
	w.part(n.Kids[2])
	for _, kid := range n.Kids[3:] {
		w.put(" if ")
		w.part(kid)
	}
}

func (w *writer) choose(n api.Node) {
	w.put("(")
	w.part(n.Kids[0])
	w.put(" if ")
	w.part(n.Kids[1])
	w.put(" else ")
	w.part(n.Kids[2])
	w.put(")")
}

func (w *writer) between(n api.Node) {
	w.put("(")
	w.part(n.Kids[0])
	w.put(" ", wordOf(n.Kind), n.Text, " ") // one of the two is empty
	w.part(n.Kids[1])
	w.put(")")
}

func (w *writer) ahead(n api.Node) {
	w.put("(", wordOf(n.Kind))
	w.part(n.Kids[0])
	w.put(")")
}

func (w *writer) call(n api.Node) {
	w.part(n.Kids[0])
	w.enclose("(", n.Kids[1:], ")")
}

func (w *writer) keyword(n api.Node) {
	w.put(n.Text, "=")
	w.part(n.Kids[0])
}

// attr puts an Int in brackets: a point behind digits would look like a part
// of the number.
func (w *writer) attr(n api.Node) {
	if told := n.Kids[:1]; told[0].Kind == api.NodeInt {
		w.enclose("(", told, ")")
	} else {
		w.part(told[0])
	}
	w.put(".", n.Text)
}

func (w *writer) index(n api.Node) {
	w.part(n.Kids[0])
	w.enclose("[", n.Kids[1:], "]")
}

func (w *writer) param(n api.Node) {
	switch {
	case len(n.Kids) == 0:
		w.put("**", n.Text)
	case isNone(n.Kids[0]):
		w.put(n.Text)
	default:
		w.keyword(n)
	}
}

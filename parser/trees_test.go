package parser_test

import (
	"strings"

	"lexicon/api"
)

// Trees by chance, of all of chapter 14's shapes.

func (g gardener) node(kind, text string, kids ...api.Node) api.Node {
	return api.Node{Kind: kindOf(kind), At: g.Intn(200) - 50, Text: text, Kids: kids}
}

func (g gardener) list(least, most int, make func() api.Node) (list []api.Node) {
	for range least + g.Intn(most-least+1) {
		list = append(list, make())
	}
	return list
}

func (g gardener) orNone(make func() api.Node) api.Node {
	if g.Intn(3) == 0 {
		return g.node("None", "")
	}
	return make()
}

func (g gardener) expr(deep int) api.Node {
	e := func() api.Node { return g.expr(deep - 1) }
	kind := g.pick("Name Int Str Const")
	if deep > 0 && g.Intn(5) > 0 {
		kind = g.pick("Tuple List Set Dict ListComp SetComp DictComp Choose Or And Not Compare Binary Negative Call Attr Index")
	}
	pair := func() api.Node { return g.node("Pair", "", e(), e()) }
	switch kind {
	case "Name":
		return g.node(kind, g.name())
	case "Int":
		n := g.node(kind, "")
		n.Num = numberOf(g.pick("0 1 7 4294967295 4294967296 18446744073709551616 99999999999999999999999999"))
		return n
	case "Str":
		return g.node(kind, []string{"", "a", "it's", "\n\t\x00", "\u00f1\u2028", "(", "\\"}[g.Intn(7)])
	case "Const":
		return g.node(kind, g.pick("None True False"))
	case "Tuple", "List":
		return g.node(kind, "", g.list(0, 3, e)...)
	case "Set":
		return g.node(kind, "", g.list(1, 3, e)...)
	case "Dict":
		return g.node(kind, "", g.list(0, 3, func() api.Node {
			if g.Intn(3) == 0 {
				return g.node("Spread", "", e())
			}
			return pair()
		})...)
	case "ListComp", "SetComp":
		return g.node(kind, "", append([]api.Node{e(), g.targets(deep - 1), e()}, g.list(0, 2, e)...)...)
	case "DictComp":
		return g.node(kind, "", append([]api.Node{pair(), g.targets(deep - 1), e()}, g.list(0, 2, e)...)...)
	case "Choose":
		return g.node(kind, "", e(), e(), e())
	case "Or", "And", "Index":
		return g.node(kind, "", e(), e())
	case "Not", "Negative":
		return g.node(kind, "", e())
	case "Compare":
		return g.node(kind, strings.ReplaceAll(g.pick("== != < <= > >= in not_in is is_not"), "_", " "), e(), e())
	case "Binary":
		return g.node(kind, g.pick("+ - * // % & | ^"), e(), e())
	case "Attr":
		return g.node(kind, g.name(), e())
	}
	kids := append([]api.Node{e()}, g.list(0, 2, e)...)
	kids = append(kids, g.list(0, 2, func() api.Node { return g.node("Keyword", g.name(), e()) })...)
	kids = append(kids, g.list(0, 1, func() api.Node { return g.node("Spread", "", e()) })...)
	return g.node("Call", "", kids...)
}

func (g gardener) target(deep int) api.Node {
	if deep <= 0 {
		return g.node("Name", g.name())
	}
	switch g.Intn(3) {
	case 0:
		return g.node("Attr", g.name(), g.expr(deep-1))
	case 1:
		return g.node("Index", "", g.expr(deep-1), g.expr(deep-1))
	}
	return g.node("Name", g.name())
}

func (g gardener) targetList(deep int) api.Node {
	return g.node("Targets", "", g.list(2, 4, func() api.Node { return g.target(deep) })...)
}

func (g gardener) targets(deep int) api.Node {
	if g.Intn(2) == 0 {
		return g.targetList(deep)
	}
	return g.target(deep)
}

func (g gardener) block(deep int) api.Node {
	return g.node("Block", "", g.list(1, 3, func() api.Node { return g.statement(deep) })...)
}

func (g gardener) statement(deep int) api.Node {
	e := func() api.Node { return g.expr(2) }
	b := func() api.Node { return g.block(deep - 1) }
	kind := g.pick("Expr Assign Unpack Augment Del Pass Break Continue Return Raise Global Nonlocal")
	if deep > 0 && g.Intn(2) == 0 {
		kind = g.pick("If While For Def Class Try")
	}
	switch kind {
	case "Expr":
		return g.node(kind, "", e())
	case "Assign":
		return g.node(kind, "", g.target(2), e())
	case "Unpack":
		return g.node(kind, "", g.targetList(2), e())
	case "Augment":
		return g.node(kind, g.pick("+ - * // % & | ^"), g.target(2), e())
	case "Del":
		return g.node(kind, "", g.target(2))
	case "Return", "Raise":
		return g.node(kind, "", g.orNone(e))
	case "Global", "Nonlocal":
		return g.node(kind, "", g.list(1, 3, func() api.Node { return g.node("Name", g.name()) })...)
	case "If":
		return g.node(kind, "", e(), b(), g.orNone(b))
	case "While":
		return g.node(kind, "", e(), b())
	case "For":
		return g.node(kind, "", g.targets(2), e(), b())
	case "Def":
		kids := g.list(0, 2, func() api.Node { return g.node("Param", g.name(), g.node("None", "")) })
		kids = append(kids, g.list(0, 2, func() api.Node { return g.node("Param", g.name(), e()) })...)
		kids = append(kids, g.list(0, 1, func() api.Node { return g.node("Param", g.name()) })...)
		return g.node(kind, g.name(), append(kids, b())...)
	case "Class":
		return g.node(kind, g.name(), g.orNone(e), b())
	case "Try":
		kids := append([]api.Node{b()}, g.list(1, 3, func() api.Node {
			return g.node("Except", []string{"", g.name()}[g.Intn(2)], e(), b())
		})...)
		if g.Intn(2) == 0 {
			kids = append(kids, g.node("Except", "", g.node("None", ""), b()))
		}
		return g.node(kind, "", kids...)
	}
	return g.node(kind, "")
}

func (g gardener) tree() api.Node {
	return g.node("Module", "", g.node("Block", "", g.list(0, 4, func() api.Node { return g.statement(3) })...))
}

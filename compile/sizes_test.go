package compile_test

import (
	"fmt"
	"slices"
	"testing"

	"lexicon/api"
	"lexicon/compile"
	"lexicon/whole"
)

var tooGreat = api.Fault{Code: api.FaultSize}

// size tells of a tree whether it is too great. (The model would take long for
// such trees.)
func size(t *testing.T, what string, n api.Node, want api.Fault) api.Program {
	t.Helper()
	p, f := compile.Compile(n)
	if f != want {
		t.Fatalf("P18.1: %s: %v", what, f)
	}
	verified(t, p, f)
	return p
}

func none() api.Node { return node(api.NodeNone, "") }

func pass() api.Node { return node(api.NodePass, "") }

func integer(n int) api.Node { return api.Node{Kind: api.NodeInt, Num: whole.Of(n)} }

// times is count nodes made by a rule.
func times(count int, make func(i int) api.Node) []api.Node {
	list := []api.Node{}
	for i := range count {
		list = append(list, make(i))
	}
	return list
}

func nameOf(i int) string { return fmt.Sprint("n", i) }

func param(name string) api.Node { return node(api.NodeParam, name, none()) }

// def is a Def of Params and of a Block that has one statement at least.
func def(name string, params []api.Node, list ...api.Node) api.Node {
	if len(list) == 0 {
		list = []api.Node{pass()}
	}
	return node(api.NodeDef, name, append(slices.Clone(params), block(list...))...)
}

func assign(name string, value api.Node) api.Node {
	return node(api.NodeAssign, "", named(name), value)
}

func TestSizeFuncs(t *testing.T) {
	comp := expr(node(api.NodeSetComp, "", named("a"), named("b"), named("c")))
	class := node(api.NodeClass, "A", none(), block(pass()))
	for what, one := range map[string]api.Node{"defs": def("f", nil), "classes": class, "comprehensions": comp} {
		p := size(t, what, module(slices.Repeat([]api.Node{one}, api.MaxFuncs-1)...), api.Fault{})
		if len(p.Funcs) != api.MaxFuncs {
			t.Errorf("P18.2: %d functions", len(p.Funcs))
		}
		size(t, "one more of "+what, module(slices.Repeat([]api.Node{one}, api.MaxFuncs)...), tooGreat)
	}
	list := slices.Repeat([]api.Node{def("f", nil, class, comp)}, api.MaxFuncs/3+1)
	size(t, "all of them", module(list...), tooGreat)
	p := size(t, "all of them", module(list[1:]...), api.Fault{})
	kinds := []int{api.KindComp, api.KindDef, api.KindClass}
	for i, f := range p.Funcs[1:] {
		if f.Kind != kinds[(i+1)%3] {
			t.Fatalf("P18.2: %d is of kind %d", i+1, f.Kind)
		}
	}
}

// TestSizeFault: what Scopes refuses is not asked for its size.
func TestSizeFault(t *testing.T) {
	list := slices.Repeat([]api.Node{def("f", nil)}, api.MaxFuncs)
	list = append(list, at(70000, node(api.NodeBreak, "")))
	size(t, "a Break behind many defs", module(list...), api.Fault{Code: api.FaultLoop, At: 70000})
}

func TestSizeInstrs(t *testing.T) {
	for what, wrap := range map[string]func(list []api.Node) api.Node{
		"a module": func(list []api.Node) api.Node { return module(list...) },
		"a def":    func(list []api.Node) api.Node { return module(def("f", nil, list...)) },
		"a class":  func(list []api.Node) api.Node { return module(node(api.NodeClass, "A", none(), block(list...))) },
	} {
		list := slices.Repeat([]api.Node{expr(named("a"))}, api.MaxInstrs/2-1)
		p := size(t, what, wrap(list), api.Fault{})
		if got := len(p.Funcs[len(p.Funcs)-1].Code); got != api.MaxInstrs {
			t.Errorf("P18.3: %s: %d instructions", what, got)
		}
		list = append(list, node(api.NodeDel, "", named("b")))
		size(t, "one more in "+what, wrap(list), tooGreat)
	}
	half := slices.Repeat([]api.Node{expr(named("a"))}, api.MaxInstrs/3)
	size(t, "many in two functions", module(append(half, def("f", nil, half...))...), api.Fault{})
}

// rowsOf is statements of lists of MaxNames nodes each, and one of what is left.
func rowsOf(list []api.Node) (out []api.Node) {
	for piece := range slices.Chunk(list, api.MaxNames) {
		out = append(out, expr(node(api.NodeList, "", piece...)))
	}
	return out
}

func TestSizeConsts(t *testing.T) {
	spread := func(count int) api.Node {
		list := times(count, integer)
		return module(append(rowsOf(list[:count/2]), def("f", nil, rowsOf(list[count/2:])...))...)
	}
	p := size(t, "constants", spread(api.MaxConsts-1), api.Fault{}) // None is one, too
	if len(p.Consts) != api.MaxConsts {
		t.Errorf("Words: %d constants", len(p.Consts))
	}
	size(t, "a constant more", spread(api.MaxConsts), tooGreat)

	again := spread(api.MaxConsts - 1)
	again.Kids[0].Kids = append(again.Kids[0].Kids, rowsOf(times(500, func(i int) api.Node { return integer(7 * i) }))...)
	size(t, "constants that are told twice", again, api.Fault{})
	again.Kids[0].Kids = append(again.Kids[0].Kids, expr(node(api.NodeStr, "1")))
	size(t, "a constant of another kind", again, tooGreat)
}

func TestSizeNames(t *testing.T) {
	spread := func(count int) api.Node {
		list := times(count, func(i int) api.Node { return named(nameOf(i)) })
		return module(append(rowsOf(list[:count/2]), def("f", nil, rowsOf(list[count/2:])...))...)
	}
	p := size(t, "names", spread(api.MaxConsts-1), api.Fault{}) // f is one, too
	if len(p.Names) != api.MaxConsts {
		t.Errorf("Words: %d names", len(p.Names))
	}
	size(t, "a name more", spread(api.MaxConsts), tooGreat)
}

// TestSizeStack: each way to lay MaxStack values on a stack, and one more.
func TestSizeStack(t *testing.T) {
	names := func(count int) []api.Node { return slices.Repeat([]api.Node{named("a")}, count) }
	tuple := func(count int) api.Node { return node(api.NodeTuple, "", names(count)...) }
	targets := func(ahead int, one api.Node) api.Node {
		list := names(api.MaxStack)
		list[ahead] = one
		return node(api.NodeTargets, "", list...)
	}
	attr := node(api.NodeAttr, "b", named("a"))
	index := node(api.NodeIndex, "", named("a"), named("b"))
	for what, pair := range map[string][2]api.Node{
		"a tuple":     {expr(tuple(api.MaxStack)), expr(node(api.NodeBinary, "+", named("a"), tuple(api.MaxStack)))},
		"a list":      {expr(node(api.NodeList, "", names(api.MaxStack)...)), expr(node(api.NodeSet, "", tuple(api.MaxStack)))},
		"a sum":       {expr(node(api.NodeBinary, "+", named("a"), tuple(api.MaxStack-1))), expr(node(api.NodeCompare, "in", named("a"), tuple(api.MaxStack)))},
		"an item":     {expr(node(api.NodeSet, "", tuple(api.MaxStack-1))), expr(node(api.NodeSet, "", tuple(api.MaxStack)))},
		"a value":     {expr(node(api.NodeDict, "", node(api.NodePair, "", named("a"), tuple(api.MaxStack-2)))), expr(node(api.NodeDict, "", node(api.NodePair, "", named("a"), tuple(api.MaxStack-1))))},
		"a call":      {expr(node(api.NodeCall, "", names(api.MaxStack)...)), expr(node(api.NodeNot, "", node(api.NodeIndex, "", named("a"), node(api.NodeCall, "", names(api.MaxStack)...))))},
		"a keyword":   {expr(node(api.NodeCall, "", append(names(api.MaxStack-3), node(api.NodeKeyword, "k", named("a")))...)), expr(node(api.NodeCall, "", append(names(api.MaxStack-2), node(api.NodeKeyword, "k", named("a")))...))},
		"a spread":    {expr(node(api.NodeCall, "", append(names(api.MaxStack-2), node(api.NodeSpread, "", named("a")))...)), expr(node(api.NodeCall, "", append(names(api.MaxStack-1), node(api.NodeSpread, "", named("a")))...))},
		"an Unpack":   {node(api.NodeUnpack, "", targets(0, named("b")), named("a")), node(api.NodeUnpack, "", targets(0, attr), named("a"))},
		"an Attr":     {node(api.NodeUnpack, "", targets(1, attr), named("a")), node(api.NodeUnpack, "", targets(0, attr), named("a"))},
		"an Index":    {node(api.NodeUnpack, "", targets(2, index), named("a")), node(api.NodeUnpack, "", targets(1, index), named("a"))},
		"a For":       {node(api.NodeFor, "", named("b"), tuple(api.MaxStack), block(expr(tuple(api.MaxStack-1)))), node(api.NodeFor, "", named("b"), tuple(api.MaxStack), block(expr(tuple(api.MaxStack))))},
		"an Augment":  {node(api.NodeAugment, "+", index, tuple(api.MaxStack-3)), node(api.NodeAugment, "+", index, tuple(api.MaxStack-2))},
		"of an Attr":  {node(api.NodeAugment, "+", attr, tuple(api.MaxStack-2)), node(api.NodeAugment, "+", attr, tuple(api.MaxStack-1))},
		"of a Name":   {node(api.NodeAugment, "+", named("b"), tuple(api.MaxStack-1)), node(api.NodeAugment, "+", named("b"), tuple(api.MaxStack))},
		"an item for": {expr(node(api.NodeSetComp, "", tuple(api.MaxStack-2), named("b"), named("c"))), expr(node(api.NodeSetComp, "", tuple(api.MaxStack-1), named("b"), named("c")))},
	} {
		size(t, what, module(pair[0]), api.Fault{})
		size(t, what+", and one more", module(pair[1]), tooGreat)
		size(t, what+", within", module(def("f", nil, pair[0])), api.Fault{})
		size(t, what+", and one more, within", module(def("f", nil, pair[1])), tooGreat)
	}
}

// namesFrom is Names from n_low on.
func namesFrom(low, count int) []api.Node {
	return times(count, func(i int) api.Node { return named(nameOf(low + i)) })
}

func TestSizeCells(t *testing.T) {
	params := times(api.MaxNames, func(i int) api.Node { return param(nameOf(i)) })
	inner := func(low, count int) api.Node { return def("g", nil, rowsOf(namesFrom(low, count))...) }
	p := size(t, "cells", module(def("f", params, inner(0, 500), inner(500, 500))), api.Fault{})
	if f := p.Funcs[1]; f.Cells != api.MaxNames || len(f.Names) != api.MaxNames+1 || f.Code[2*999].A != 999 {
		t.Errorf("P18.2: %d cells, %d names", f.Cells, len(f.Names))
	}
	more := assign(nameOf(api.MaxNames), named("a"))
	size(t, "a local that is no cell", module(def("f", params, more, inner(0, 500), inner(500, 500))), api.Fault{})
	size(t, "a cell more", module(def("f", params, more, inner(0, 500), inner(500, 501))), tooGreat)
}

func TestSizeFrees(t *testing.T) {
	some := func(low, count int) []api.Node {
		return times(count, func(i int) api.Node { return param(nameOf(low + i)) })
	}
	given := []api.Node{node(api.NodeParam, "x", integer(1))}
	for what, r := range map[string]struct {
		inner api.Node
		want  api.Fault
	}{
		"MaxNames frees":       {def("h", nil, rowsOf(namesFrom(0, 1000))...), api.Fault{}},
		"one more":             {def("h", nil, rowsOf(namesFrom(0, 1001))...), tooGreat},
		"a default beside":     {def("h", given, rowsOf(namesFrom(0, 1000))...), tooGreat},
		"a default":            {def("h", given, rowsOf(namesFrom(0, 999))...), api.Fault{}},
		"a class":              {node(api.NodeClass, "A", none(), block(rowsOf(namesFrom(0, 1000))...)), api.Fault{}},
		"a class with a base":  {node(api.NodeClass, "A", integer(1), block(rowsOf(namesFrom(0, 999))...)), api.Fault{}},
		"a base beside":        {node(api.NodeClass, "A", integer(1), block(rowsOf(namesFrom(0, 1000))...)), tooGreat},
		"a comprehension":      {expr(node(api.NodeListComp, "", node(api.NodeList, "", namesFrom(0, 998)...), named("x"), named("y"))), api.Fault{}},
		"a sum of one":         {expr(node(api.NodeBinary, "+", named("y"), node(api.NodeListComp, "", named("x"), named("x"), named("y"), node(api.NodeList, "", namesFrom(0, 900)...), node(api.NodeList, "", namesFrom(900, 99)...)))), api.Fault{}},
		"a sum of a great one": {expr(node(api.NodeBinary, "+", named("y"), node(api.NodeListComp, "", named("x"), named("x"), named("y"), node(api.NodeList, "", namesFrom(0, 900)...), node(api.NodeList, "", namesFrom(900, 100)...)))), tooGreat},
	} {
		size(t, what, module(def("f", some(0, 600), def("g", some(600, 600), r.inner))), r.want)
	}
}

// TestSizeLocals: Params are counted by Scopes; other locals may be any number.
func TestSizeLocals(t *testing.T) {
	params := times(api.MaxNames, func(i int) api.Node { return param(nameOf(i)) })
	p := size(t, "Params", module(def("f", params)), api.Fault{})
	if f := p.Funcs[1]; f.Params != api.MaxNames || len(f.Names) != api.MaxNames {
		t.Errorf("P18.2: %d Params, %d Names", f.Params, len(f.Names))
	}
	rest := node(api.NodeParam, "r")
	size(t, "a Rest", module(def("f", append(params[:999:999], rest))), api.Fault{})
	tooMany := api.Fault{Code: api.FaultNames, At: 7}
	size(t, "a Rest more", module(def("f", append(params[:1000:1000], rest))), tooMany)
	size(t, "a Param more", module(def("f", append(params[:1000:1000], param("x")))), tooMany)

	given := times(api.MaxNames, func(i int) api.Node { return node(api.NodeParam, nameOf(i), integer(i)) })
	p = size(t, "defaults", module(def("f", given)), api.Fault{})
	if f := p.Funcs[1]; f.Params != api.MaxNames || f.Defaults != api.MaxNames {
		t.Errorf("P18.2: %d Params, %d Defaults", f.Params, f.Defaults)
	}
	size(t, "defaults and a free", module(def("g", []api.Node{param("x")}, def("f", given, expr(named("x"))))), tooGreat)

	const count = 3 * api.MaxNames
	list := times(count, func(i int) api.Node { return assign(nameOf(i), named("a")) })
	try := node(api.NodeTry, "", block(pass()), node(api.NodeExcept, "", none(), block(pass())))
	list = append(list, slices.Repeat([]api.Node{try}, count)...)
	p = size(t, "locals", module(def("f", nil, list...)), api.Fault{})
	if f := p.Funcs[1]; len(f.Names) != 2*count || f.Names[2*count-1] != fmt.Sprint(".e", count-1) {
		t.Errorf("P18.2: %d Names", len(f.Names))
	}
}

package compile_test

import (
	"fmt"
	"math/rand"
	"strings"
	"testing"

	"lexicon/api"
	"lexicon/code"
	"lexicon/compile"
	"lexicon/scope"
	"lexicon/tree"
	"lexicon/whole"
)

// gardener grows trees by chance, of few names and many scopes. It knows what
// its statements stand in, within their scope.
type gardener struct {
	*rand.Rand
	def, loop, except bool
}

func newGardener(seed int) gardener {
	return gardener{Rand: rand.New(rand.NewSource(int64(seed)))}
}

func (g gardener) inDef() gardener    { return gardener{Rand: g.Rand, def: true} }
func (g gardener) inClass() gardener  { return gardener{Rand: g.Rand} }
func (g gardener) inLoop() gardener   { g.loop = true; return g }
func (g gardener) inExcept() gardener { g.except = true; return g }

func (g gardener) pick(words ...string) string { return words[g.Intn(len(words))] }

func (g gardener) name() string { return g.pick("a", "b", "c", "x", "x") }

func (g gardener) sign() string { return g.pick(strings.Fields(signs)...) }

func (g gardener) comparison() string {
	return strings.ReplaceAll(g.pick(strings.Fields(comparisons)...), "_", " ")
}

func (g gardener) one(make ...func() api.Node) api.Node { return make[g.Intn(len(make))]() }

func (g gardener) list(least, most int, make func() api.Node) (list []api.Node) {
	for range least + g.Intn(most-least+1) {
		list = append(list, make())
	}
	return list
}

func (g gardener) orNone(make func() api.Node) api.Node {
	if g.Intn(2) == 0 {
		return none()
	}
	return make()
}

func (g gardener) nameNode() api.Node { return named(g.name()) }

func (g gardener) leaf() api.Node {
	return g.one(
		g.nameNode, g.nameNode, g.nameNode,
		func() api.Node { return integer(g.Intn(3) << g.Intn(60)) },
		func() api.Node {
			n, _ := whole.Parse(g.pick("1", "18446744073709551616", "4294967297"))
			return api.Node{Kind: api.NodeInt, Num: n}
		},
		func() api.Node { return node(api.NodeStr, g.pick("", "1", "True", "a", "None", "\x01")) },
		func() api.Node { return node(api.NodeConst, g.pick("None", "True", "False")) })
}

func (g gardener) comp(kind int, first api.Node, deep int) api.Node {
	e := func() api.Node { return g.expr(deep - 1) }
	return node(kind, "", append([]api.Node{first, g.targets(deep - 1), e()}, g.list(0, 2, e)...)...)
}

func (g gardener) expr(deep int) api.Node {
	if deep <= 0 || g.Intn(4) == 0 {
		return g.leaf()
	}
	e := func() api.Node { return g.expr(deep - 1) }
	of := func(kind int, text string, kids func() []api.Node) func() api.Node {
		return func() api.Node { return node(kind, text, kids()...) }
	}
	some := func(least, most int) func() []api.Node {
		return func() []api.Node { return g.list(least, most, e) }
	}
	pair := of(api.NodePair, "", some(2, 2))
	item := func() api.Node { return g.one(pair, of(api.NodeSpread, "", some(1, 1))) }
	return g.one(
		func() api.Node { return g.comp(api.NodeListComp, e(), deep) },
		func() api.Node { return g.comp(api.NodeSetComp, e(), deep) },
		func() api.Node { return g.comp(api.NodeDictComp, pair(), deep) },
		of(api.NodeTuple, "", some(0, 3)), of(api.NodeList, "", some(0, 3)), of(api.NodeSet, "", some(1, 3)),
		func() api.Node { return node(api.NodeDict, "", g.list(0, 3, item)...) },
		of(api.NodeChoose, "", some(3, 3)), of(api.NodeOr, "", some(2, 2)), of(api.NodeAnd, "", some(2, 2)),
		of(api.NodeNot, "", some(1, 1)), of(api.NodeNegative, "", some(1, 1)),
		of(api.NodeBinary, g.sign(), some(2, 2)), of(api.NodeCompare, g.comparison(), some(2, 2)),
		of(api.NodeAttr, g.name(), some(1, 1)), of(api.NodeIndex, "", some(2, 2)),
		func() api.Node { return g.call(deep) })
}

func (g gardener) call(deep int) api.Node {
	e := func() api.Node { return g.expr(deep - 1) }
	kids := append([]api.Node{e()}, g.list(0, 2, e)...)
	for i := range g.Intn(3) {
		kids = append(kids, node(api.NodeKeyword, fmt.Sprint(g.name(), i), e()))
	}
	return node(api.NodeCall, "", append(kids, g.list(0, 1, func() api.Node { return node(api.NodeSpread, "", e()) })...)...)
}

func (g gardener) target(deep int) api.Node {
	switch g.Intn(5) {
	case 0:
		return node(api.NodeAttr, g.name(), g.expr(deep-1))
	case 1:
		return node(api.NodeIndex, "", g.expr(deep-1), g.expr(deep-1))
	}
	return g.nameNode()
}

func (g gardener) targetList(deep int) api.Node {
	return node(api.NodeTargets, "", g.list(2, 3, func() api.Node { return g.target(deep) })...)
}

func (g gardener) targets(deep int) api.Node {
	if g.Intn(3) == 0 {
		return g.targetList(deep)
	}
	return g.target(deep)
}

func (g gardener) declaration() api.Node {
	kind := []int{api.NodeGlobal, api.NodeNonlocal}[g.Intn(2)]
	return node(kind, "", g.list(1, 2, g.nameNode)...)
}

func (g gardener) block(deep int) api.Node {
	kids := g.list(1, 3, func() api.Node { return g.statement(deep) })
	if g.Intn(4) == 0 {
		kids = append([]api.Node{g.declaration()}, kids...)
	}
	return block(kids...)
}

func (g gardener) statement(deep int) api.Node {
	if deep > 0 && g.Intn(4) > 0 {
		return g.compound(deep)
	}
	e := func() api.Node { return g.expr(2) }
	if g.Intn(4) == 0 {
		return g.leaving(e)
	}
	return g.one(
		func() api.Node { return expr(e()) }, pass,
		func() api.Node { return node(api.NodeAssign, "", g.target(1), e()) },
		func() api.Node { return node(api.NodeUnpack, "", g.targetList(1), e()) },
		func() api.Node { return node(api.NodeAugment, g.sign(), g.target(1), e()) },
		func() api.Node { return node(api.NodeDel, "", g.target(1)) })
}

// leaving is a statement that leaves what it may leave.
func (g gardener) leaving(e func() api.Node) api.Node {
	switch kind := api.NodeBreak + g.Intn(4); {
	case kind == api.NodeReturn && g.def, kind == api.NodeRaise && g.except:
		return node(kind, "", g.orNone(e))
	case kind == api.NodeRaise:
		return node(kind, "", e())
	case kind != api.NodeReturn && g.loop:
		return node(kind, "")
	}
	return pass()
}

func (g gardener) compound(deep int) api.Node {
	e := func() api.Node { return g.expr(1) }
	b := func() api.Node { return g.block(deep - 1) }
	looping := func() api.Node { return g.inLoop().block(deep - 1) }
	def, try := func() api.Node { return g.newDef(deep) }, func() api.Node { return g.try(deep) }
	return g.one(
		def, def, try, try,
		func() api.Node { return node(api.NodeClass, g.name(), g.orNone(e), g.inClass().block(deep-1)) },
		func() api.Node { return node(api.NodeIf, "", e(), b(), g.orNone(b)) },
		func() api.Node { return node(api.NodeWhile, "", e(), looping()) },
		func() api.Node { return node(api.NodeFor, "", g.targets(1), e(), looping()) })
}

func (g gardener) try(deep int) api.Node {
	kids := append([]api.Node{g.block(deep - 1)}, g.list(0, 2, func() api.Node {
		return node(api.NodeExcept, g.pick("", g.name()), g.expr(1), g.inExcept().block(deep-1))
	})...)
	if len(kids) == 1 || g.Intn(2) == 0 {
		kids = append(kids, node(api.NodeExcept, "", none(), g.inExcept().block(deep-1)))
	}
	return node(api.NodeTry, "", kids...)
}

func (g gardener) newDef(deep int) api.Node {
	names := g.Perm(5)[:g.Intn(4)]
	given := g.Intn(len(names) + 1)
	var kids []api.Node
	for i, nth := range names {
		name := []string{"a", "b", "c", "x", "y"}[nth]
		switch {
		case i == len(names)-1 && g.Intn(2) == 0:
			kids = append(kids, node(api.NodeParam, name))
		case i >= given:
			kids = append(kids, node(api.NodeParam, name, g.expr(1)))
		default:
			kids = append(kids, param(name))
		}
	}
	return node(api.NodeDef, g.name(), append(kids, g.inDef().block(deep-1))...)
}

func (g gardener) module() api.Node {
	return module(g.list(0, 3, func() api.Node { return g.statement(4) })...)
}

// eachNode goes through a tree's nodes, to turn them.
func eachNode(n *api.Node, turn func(*api.Node)) {
	turn(n)
	for i := range n.Kids {
		eachNode(&n.Kids[i], turn)
	}
}

// place gives each node a place of its own, in the order of the tree.
func place(n *api.Node) {
	next := 0
	eachNode(n, func(n *api.Node) {
		n.At = next
		next++
	})
}

// mend takes a declaration that is a fault out of a tree whose nodes have places
// of their own.
func mend(n *api.Node, f api.Fault) {
	eachNode(n, func(n *api.Node) {
		if n.Kind != api.NodeGlobal && n.Kind != api.NodeNonlocal {
			return
		}
		for _, kid := range n.Kids {
			if kid.At == f.At {
				n.Kind, n.Kids = api.NodePass, nil
				return
			}
		}
	})
}

// grown is a tree that Scopes takes.
func grown(t testing.TB, seed int) api.Node {
	n := newGardener(seed).module()
	place(&n)
	for range 1000 {
		_, f := scope.Scopes(n)
		if f == (api.Fault{}) {
			return n
		}
		mend(&n, f)
	}
	t.Fatalf("seed %d: no end of faults", seed)
	return n
}

// TestGames: trees by chance are compiled as the model does; the places of
// their nodes make no difference.
func TestGames(t *testing.T) {
	const groups = 8
	var counts [groups]map[string]int
	t.Run("all", func(t *testing.T) {
		for group := range groups {
			counts[group] = map[string]int{}
			t.Run(fmt.Sprint(group), func(t *testing.T) {
				t.Parallel()
				for seed := group; seed < 2400; seed += groups {
					game(t, seed, counts[group])
				}
			})
		}
	})
	total := map[string]int{}
	for _, count := range counts {
		for what, seen := range count {
			total[what] += seen
		}
	}
	for op := api.OpConst; op <= api.OpKeyword; op++ {
		if seen := total[code.Name(op)]; seen < 20 && op != api.OpIf { // no row has an if
			t.Errorf("the games have %d of %s", seen, code.Name(op))
		}
	}
	for _, what := range []string{"kind 1", "kind 2", "kind 3", "kind 4", "rest", "cells", "frees", "closing"} {
		if total[what] < 20 {
			t.Errorf("the games have %d of %s", total[what], what)
		}
	}
}

func game(t *testing.T, seed int, seen map[string]int) {
	n := grown(t, seed)
	p, f := answer(t, n)
	if f != (api.Fault{}) {
		t.Fatalf("P18.1: seed %d: %v", seed, f)
	}
	gather(p, seen)
	if got, want := raw(compile.Compile(tree.Bare(n))), raw(p, f); got != want {
		t.Fatalf("P18.6: %q:\n got %s\nwant %s", tree.Print(n), got, want)
	}
	eachNode(&n, func(n *api.Node) { n.At = -3 * n.At })
	if _, f := scope.Scopes(n); f == (api.Fault{}) {
		if got, want := raw(compile.Compile(n)), raw(p, f); got != want {
			t.Fatalf("P18.6: %q:\n got %s\nwant %s", tree.Print(n), got, want)
		}
	}
}

// gather counts what there is in programs.
func gather(p api.Program, seen map[string]int) {
	for _, f := range p.Funcs {
		seen[fmt.Sprint("kind ", f.Kind)]++
		if f.Rest {
			seen["rest"]++
		}
		seen["cells"] += f.Cells
		seen["frees"] += f.Frees
		for at, i := range f.Code {
			seen[code.Name(i.Op)]++
			if i.Op == api.OpEndTry && f.Code[at+1].Op == api.OpPop {
				seen["closing"]++
			}
		}
	}
}

// TestGamesOfTwists: trees of which one node was turned into anything; most of
// them are refused.
func TestGamesOfTwists(t *testing.T) {
	taken, refused := 0, 0
	for seed := range 800 {
		n := grown(t, seed)
		g := newGardener(seed)
		nth := g.Intn(tree.Size(n))
		eachNode(&n, func(n *api.Node) {
			if nth--; nth == -1 {
				g.twist(n)
			}
		})
		if _, f := answer(t, n); f == (api.Fault{}) {
			taken++
		} else {
			refused++
		}
	}
	if taken < 100 || refused < 100 {
		t.Errorf("%d taken, %d refused", taken, refused)
	}
}

func (g gardener) twist(n *api.Node) {
	switch g.Intn(5) {
	case 0:
		n.Kind = g.Intn(58) - 1
	case 1:
		n.Text = g.pick("", "a", "if", "9", "+", "\xff", "None")
	case 2:
		n.Kids = append(n.Kids[:len(n.Kids):len(n.Kids)], g.expr(1))
	case 3:
		n.Kids = n.Kids[:g.Intn(len(n.Kids)+1)]
	case 4:
		n.Num.Mag = []uint32{uint32(g.Intn(2))}
	}
}

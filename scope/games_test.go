package scope_test

import (
	"fmt"
	"math/rand"
	"slices"
	"testing"

	"lexicon/api"
	"lexicon/scope"
	"lexicon/tree"
)

// gardener grows trees by chance, of few names and many scopes.
type gardener struct{ *rand.Rand }

func (g gardener) name() string { return g.pick("a", "b", "c", "x", "x") }

func (g gardener) pick(words ...string) string { return words[g.Intn(len(words))] }

func (g gardener) one(make ...func() api.Node) api.Node { return make[g.Intn(len(make))]() }

func (g gardener) list(least, most int, make func() api.Node) (list []api.Node) {
	for range least + g.Intn(most-least+1) {
		list = append(list, make())
	}
	return list
}

func (g gardener) orNone(make func() api.Node) api.Node {
	if g.Intn(2) == 0 {
		return node(api.NodeNone, "")
	}
	return make()
}

func (g gardener) nameNode() api.Node { return name(g.name()) }

func (g gardener) expr(deep int) api.Node {
	if deep <= 0 || g.Intn(3) == 0 {
		return g.nameNode()
	}
	e := func() api.Node { return g.expr(deep - 1) }
	pair := func() api.Node { return node(api.NodePair, "", e(), e()) }
	spread := func() api.Node { return node(api.NodeSpread, "", e()) }
	comp := func(kind int, first api.Node) api.Node {
		return node(kind, "", append([]api.Node{first, g.targets(deep - 1), e()}, g.list(0, 2, e)...)...)
	}
	return g.one(
		func() api.Node { return comp(api.NodeListComp, e()) },
		func() api.Node { return comp(api.NodeSetComp, e()) },
		func() api.Node { return comp(api.NodeDictComp, pair()) },
		func() api.Node { return node(api.NodeTuple, "", g.list(0, 2, e)...) },
		func() api.Node {
			return node(api.NodeDict, "", g.list(0, 2, func() api.Node { return g.one(pair, spread) })...)
		},
		func() api.Node { return node(api.NodeChoose, "", e(), e(), e()) },
		func() api.Node { return node(api.NodeBinary, "+", e(), e()) },
		func() api.Node { return node(api.NodeAttr, g.name(), e()) },
		func() api.Node { return node(api.NodeIndex, "", e(), e()) },
		func() api.Node {
			kids := append([]api.Node{e()}, g.list(0, 1, e)...)
			kids = append(kids, g.list(0, 2, func() api.Node { return node(api.NodeKeyword, g.name(), e()) })...)
			return node(api.NodeCall, "", append(kids, g.list(0, 1, spread)...)...)
		})
}

func (g gardener) target(deep int) api.Node {
	switch g.Intn(5) {
	case 0:
		return node(api.NodeAttr, g.name(), g.expr(deep-1))
	case 1:
		return node(api.NodeIndex, "", g.expr(deep-1), g.expr(deep-1))
	}
	return g.nameNode()
}

func (g gardener) targetList(deep int) api.Node {
	return node(api.NodeTargets, "", g.list(2, 3, func() api.Node { return g.target(deep) })...)
}

func (g gardener) targets(deep int) api.Node {
	if g.Intn(3) == 0 {
		return g.targetList(deep)
	}
	return g.target(deep)
}

func (g gardener) block(deep int) api.Node {
	kids := g.list(1, 3, func() api.Node { return g.statement(deep) })
	if g.Intn(4) == 0 {
		kids = append([]api.Node{g.declaration()}, kids...)
	}
	return node(api.NodeBlock, "", kids...)
}

func (g gardener) declaration() api.Node {
	kind := []int{api.NodeGlobal, api.NodeNonlocal}[g.Intn(2)]
	return node(kind, "", g.list(1, 2, g.nameNode)...)
}

func (g gardener) statement(deep int) api.Node {
	if deep > 0 && g.Intn(4) > 0 {
		return g.compound(deep)
	}
	e := func() api.Node { return g.expr(2) }
	word := func(kind int) func() api.Node { return func() api.Node { return node(kind, "") } }
	given := func(kind int) func() api.Node { return func() api.Node { return node(kind, "", g.orNone(e)) } }
	return g.one(
		func() api.Node { return node(api.NodeExpr, "", e()) },
		func() api.Node { return node(api.NodeAssign, "", g.target(1), e()) },
		func() api.Node { return node(api.NodeUnpack, "", g.targetList(1), e()) },
		func() api.Node { return node(api.NodeAugment, "+", g.target(1), e()) },
		func() api.Node { return node(api.NodeDel, "", g.target(1)) },
		g.declaration, word(api.NodeBreak), word(api.NodeContinue), given(api.NodeReturn), given(api.NodeRaise))
}

func (g gardener) compound(deep int) api.Node {
	e := func() api.Node { return g.expr(1) }
	b := func() api.Node { return g.block(deep - 1) }
	def := func() api.Node { return g.def(deep) }
	return g.one(
		def, def, def,
		func() api.Node { return node(api.NodeClass, g.name(), g.orNone(e), b()) },
		func() api.Node { return node(api.NodeClass, g.name(), g.orNone(e), b()) },
		func() api.Node { return node(api.NodeIf, "", e(), b(), g.orNone(b)) },
		func() api.Node { return node(api.NodeWhile, "", e(), b()) },
		func() api.Node { return node(api.NodeFor, "", g.targets(1), e(), b()) },
		func() api.Node {
			kids := append([]api.Node{b()}, g.list(1, 2, func() api.Node {
				return node(api.NodeExcept, g.pick("", g.name()), e(), b())
			})...)
			if g.Intn(2) == 0 {
				kids = append(kids, node(api.NodeExcept, "", node(api.NodeNone, ""), b()))
			}
			return node(api.NodeTry, "", kids...)
		})
}

func (g gardener) def(deep int) api.Node {
	kids := g.list(0, 1, func() api.Node { return node(api.NodeParam, g.name(), node(api.NodeNone, "")) })
	kids = append(kids, g.list(0, 1, func() api.Node { return node(api.NodeParam, g.name(), g.expr(1)) })...)
	kids = append(kids, g.list(0, 1, func() api.Node { return node(api.NodeParam, g.name()) })...)
	return node(api.NodeDef, g.name(), append(kids, g.block(deep-1))...)
}

func (g gardener) module() api.Node {
	return moduleOf(g.list(0, 2, func() api.Node { return g.statement(4) })...)
}

// eachNode goes through a tree's nodes, to turn them.
func eachNode(n *api.Node, turn func(*api.Node)) {
	turn(n)
	for i := range n.Kids {
		eachNode(&n.Kids[i], turn)
	}
}

// place gives each node a place of its own: in the order of the tree, or in
// none.
func (g gardener) place(n *api.Node, inOrder bool) {
	places := g.Perm(tree.Size(*n))
	next := 0
	eachNode(n, func(n *api.Node) {
		n.At = places[next] - 20
		if inOrder {
			n.At = next
		}
		next++
	})
}

// crowd gives the nodes few places.
func (g gardener) crowd(n *api.Node) {
	eachNode(n, func(n *api.Node) { n.At = g.Intn(12) - 3 })
}

// mend takes a fault out of a tree whose nodes have places of their own.
func mend(n *api.Node, f api.Fault, fresh string) {
	eachNode(n, func(n *api.Node) {
		declares := (n.Kind == api.NodeGlobal || n.Kind == api.NodeNonlocal) && len(n.Kids) > 0
		for i := range n.Kids {
			if !declares || n.Kids[i].At != f.At {
				continue
			}
			n.Kids = append(n.Kids[:i:i], n.Kids[i+1:]...)
			if len(n.Kids) == 0 {
				n.Kind = api.NodePass
			}
			return
		}
		switch {
		case n.At != f.At:
		case f.Code == api.FaultTwice:
			n.Text = fresh
		case f.Code == api.FaultLoop, f.Code == api.FaultReturn, f.Code == api.FaultRaise:
			n.Kind, n.Kids = api.NodePass, nil
		}
	})
}

// TestGames: trees by chance, each mended fault by fault till it has none:
// all on the way is the model's.
func TestGames(t *testing.T) {
	const groups = 8
	var counts [groups]map[string]int
	t.Run("all", func(t *testing.T) {
		for group := range groups {
			counts[group] = map[string]int{}
			t.Run(fmt.Sprint(group), func(t *testing.T) {
				t.Parallel()
				for seed := group; seed < 1000; seed += groups {
					game(t, seed, counts[group])
				}
			})
		}
	})
	for _, what := range []string{
		"fault 0", "fault 110", "fault 111", "fault 112", "fault 113", "fault 114", "fault 115", "crowd 0",
		"Module global", "Def local", "Def cell", "Def free", "Def global", "Def free global", "Class class", "Class free", "Class global",
		"Class free class", "Class free global", "Comp local", "Comp cell", "Comp free", "Comp global",
	} {
		seen := 0
		for _, count := range counts {
			seen += count[what]
		}
		if seen < 20 {
			t.Errorf("the games have %d of %s", seen, what)
		}
	}
}

func game(t *testing.T, seed int, seen map[string]int) {
	g := gardener{rand.New(rand.NewSource(int64(seed)))}
	n := g.module()
	g.crowd(&n)
	_, f := answer(t, n)
	seen[fmt.Sprint("crowd ", f.Code)]++
	g.place(&n, seed%3 > 0)
	for round := range 1000 {
		list, f := answer(t, n)
		seen[fmt.Sprint("fault ", f.Code)]++
		if f == (api.Fault{}) {
			gather(list, seen)
			return
		}
		mend(&n, f, fmt.Sprint("m", round))
	}
	t.Fatalf("seed %d: no end of faults", seed)
}

// gather counts what names are in scopes.
func gather(list []api.Scope, seen map[string]int) {
	for _, s := range list {
		words := map[string]string{}
		for _, u := range s.Uses {
			words[u.Name] += " " + whatNames[u.What]
		}
		for _, w := range words {
			seen[scopeNames[s.Kind]+w]++
		}
	}
}

// TestGamesOfTwists: trees of which one node was turned into anything; most of
// them are refused.
func TestGamesOfTwists(t *testing.T) {
	taken, refused := 0, 0
	for seed := range 2000 {
		g := gardener{rand.New(rand.NewSource(int64(seed)))}
		n := g.module()
		g.crowd(&n)
		nth := g.Intn(tree.Size(n))
		eachNode(&n, func(n *api.Node) {
			if nth--; nth == -1 {
				g.twist(n)
			}
		})
		if _, f := answer(t, n); f == (api.Fault{Code: api.FaultSyntax}) {
			refused++
		} else {
			taken++
		}
	}
	if taken < 100 || refused < 100 {
		t.Errorf("%d taken, %d refused", taken, refused)
	}
}

func (g gardener) twist(n *api.Node) {
	switch g.Intn(5) {
	case 0:
		n.Kind = g.Intn(58) - 1
	case 1:
		n.Text = g.pick("", "a", "if", "9", "+", "\xff", "None")
	case 2:
		n.Kids = append(n.Kids[:len(n.Kids):len(n.Kids)], g.expr(1))
	case 3:
		n.Kids = n.Kids[:g.Intn(len(n.Kids)+1)]
	case 4:
		n.Num.Mag = []uint32{uint32(g.Intn(2))}
	}
}

// TestMany: as many scopes as there are in a great tree, and names that many
// of them, and many around them, have.
func TestMany(t *testing.T) {
	const count = 5000
	one := read(t, "def f(x):\n def g():\n  return [x for a in f]").Kids[0].Kids[0]
	list, f := scope.Scopes(moduleOf(slices.Repeat([]api.Node{one}, count)...))
	if f != (api.Fault{}) || len(list) != 3*count+1 {
		t.Fatalf("P16.5: %d scopes, %v", len(list), f)
	}
	follows(t, list)
	want := "Def@0<0 2 1 0: g local 1, x cell 0; Def@11<1 0 0 1: f global, x free 0; Comp@29<2 2 0 1: a local 1, x free 0"
	for i := 1; i < len(list); i += 3 {
		three := slices.Clone(list[i : i+3])
		three[1].Around -= i - 1
		three[2].Around -= i - 1
		if got := told(three, api.Fault{}); got != want {
			t.Fatalf("P16.3: got %s, want %s", got, want)
		}
	}

	comp := node(api.NodeExpr, "", node(api.NodeListComp, "", name("x"), name("a"), name("y")))
	block := node(api.NodeBlock, "", slices.Repeat([]api.Node{comp}, 20*count)...)
	for range 100 {
		block = node(api.NodeBlock, "", node(api.NodeDef, "g", block))
	}
	list, f = scope.Scopes(moduleOf(node(api.NodeDef, "f", node(api.NodeParam, "x"), block)))
	if f != (api.Fault{}) || len(list) != 102+20*count {
		t.Fatalf("P16.5: %d scopes, %v", len(list), f)
	}
	follows(t, list)
}

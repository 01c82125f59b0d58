package tree_test

import (
	"fmt"
	"math/rand"
	"slices"
	"strings"
	"testing"

	"lexicon/api"
	"lexicon/lexer"
	"lexicon/tree"
)

// rows are the chapter's table: of each kind, nodes that are so and nodes that
// are not.
var rows = []struct {
	kind           string
	taken, refused []string
}{
	{"Module",
		[]string{"Module(Block)", "Module(Block(Pass))"},
		[]string{"Module", "Module(Block, Block)", "Module(None)", "Module(Pass)", "Module(Name a)", "Module(Module(Block))", "Module(Block, None)"}},
	{"Block",
		[]string{"Block(Pass)", "Block(Pass, Pass)", "Block(Expr(Name a), Assign(Name a, Int 1), Unpack(Targets(Name a, Name b), Name c), Augment +(Name a, Int 1), Del(Name a), Pass, Break, Continue, Return(None), Raise(None), Global(Name a), Nonlocal(Name a))", "Block(If(Name a, Block(Pass), None), While(Name a, Block(Pass)), For(Name a, Name b, Block(Pass)), Def f(Block(Pass)), Class C(None, Block(Pass)), Try(Block(Pass), Except(None, Block(Pass))))"},
		[]string{"Block", "Block(None)", "Block(Name a)", "Block(Block(Pass))", "Block(Module(Block))", "Block(Param a)", "Block(Except(None, Block(Pass)))", "Block(Targets(Name a, Name b))", "Block(Pass, None)", "Block(Pair(Name a, Name b))"}},
	{"Expr",
		[]string{"Expr(Name a)", "Expr(Int 1)", "Expr(Str s)", "Expr(Const None)", "Expr(Tuple)", "Expr(List)", "Expr(Set(Name a))", "Expr(Dict)", "Expr(ListComp(Name a, Name a, Name b))", "Expr(SetComp(Name a, Name a, Name b))", "Expr(DictComp(Pair(Name a, Name a), Name a, Name b))", "Expr(Choose(Name a, Name b, Name c))", "Expr(Or(Name a, Name b))", "Expr(And(Name a, Name b))", "Expr(Not(Name a))", "Expr(Compare <(Name a, Name b))", "Expr(Binary +(Name a, Name b))", "Expr(Negative(Name a))", "Expr(Call(Name a))", "Expr(Attr x(Name a))", "Expr(Index(Name a, Name b))"},
		[]string{"Expr", "Expr(Name a, Name b)", "Expr(None)", "Expr(Pass)", "Expr(Expr(Name a))", "Expr(Pair(Name a, Name b))", "Expr(Spread(Name a))", "Expr(Keyword k(Name a))", "Expr(Targets(Name a, Name b))", "Expr(Block(Pass))", "Expr(Module(Block))", "Expr(Param a)", "Expr(Name a, None)"}},
	{"Assign",
		[]string{"Assign(Name a, Int 1)", "Assign(Attr x(Name a), Tuple)", "Assign(Index(Name a, Int 0), Name b)"},
		[]string{"Assign", "Assign(Name a)", "Assign(Name a, Int 1, Int 2)", "Assign(Name a, None)", "Assign(None, Int 1)", "Assign(Int 1, Int 1)", "Assign(Tuple(Name a, Name b), Name c)", "Assign(List(Name a, Name b), Name c)", "Assign(Targets(Name a, Name b), Name c)", "Assign(Const None, Int 1)", "Assign(Call(Name a), Int 1)", "Assign(Name a, Pass)", "Assign(Name a, Targets(Name a, Name b))", "Assign(Name a, Assign(Name b, Int 1))"}},
	{"Unpack",
		[]string{"Unpack(Targets(Name a, Name b), Name c)", "Unpack(Targets(Name a, Attr x(Name b), Index(Name c, Int 0)), Int 1)"},
		[]string{"Unpack", "Unpack(Targets(Name a, Name b))", "Unpack(Targets(Name a, Name b), Name c, Name d)", "Unpack(Name a, Name c)", "Unpack(Tuple(Name a, Name b), Name c)", "Unpack(None, Name c)", "Unpack(Targets(Name a, Name b), None)", "Unpack(Targets(Name a, Name b), Targets(Name a, Name b))"}},
	{"Augment",
		[]string{"Augment +(Name a, Int 1)", "Augment -(Name a, Int 1)", "Augment *(Name a, Int 1)", "Augment //(Attr x(Name a), Int 1)", "Augment %(Index(Name a, Int 0), Int 1)", "Augment &(Name a, Int 1)", "Augment |(Name a, Int 1)", "Augment ^(Name a, Int 1)"},
		[]string{"Augment(Name a, Int 1)", "Augment +=(Name a, Int 1)", "Augment **(Name a, Int 1)", "Augment /(Name a, Int 1)", "Augment or(Name a, Int 1)", "Augment <(Name a, Int 1)", "Augment + (Name a, Int 1)", "Augment +-(Name a, Int 1)", "Augment a(Name a, Int 1)", "Augment +", "Augment +(Name a)", "Augment +(Name a, Int 1, Int 2)", "Augment +(Targets(Name a, Name b), Int 1)", "Augment +(Int 1, Int 1)", "Augment +(None, Int 1)", "Augment +(Name a, None)"}},
	{"Del",
		[]string{"Del(Name a)", "Del(Attr x(Name a))", "Del(Index(Name a, Int 0))"},
		[]string{"Del", "Del(Name a, Name b)", "Del(None)", "Del(Call(Name a))", "Del(Tuple(Name a, Name b))", "Del(Targets(Name a, Name b))", "Del(Int 1)"}},
	{"Pass", []string{"Pass"}, []string{"Pass(None)", "Pass(Name a)", "Pass(Pass)"}},
	{"Break", []string{"Break"}, []string{"Break(None)", "Break(Name a)", "Break(Break)"}},
	{"Continue", []string{"Continue"}, []string{"Continue(None)", "Continue(Name a)"}},
	{"Return",
		[]string{"Return(None)", "Return(Name a)", "Return(Tuple)"},
		[]string{"Return", "Return(Name a, Name b)", "Return(None, None)", "Return(Pass)", "Return(Spread(Name a))", "Return(None(None))", "Return(None x)", "Return(None(Name a))"}},
	{"Raise",
		[]string{"Raise(None)", "Raise(Name a)", "Raise(Call(Name a))"},
		[]string{"Raise", "Raise(Name a, Name b)", "Raise(None, None)", "Raise(Pass)", "Raise(None(None))"}},
	{"Global",
		[]string{"Global(Name a)", "Global(Name a, Name a, Name b)"},
		[]string{"Global", "Global(None)", "Global(Str a)", "Global(Attr x(Name a))", "Global(Name a, None)", "Global(Targets(Name a, Name b))"}},
	{"Nonlocal",
		[]string{"Nonlocal(Name a)", "Nonlocal(Name a, Name b)"},
		[]string{"Nonlocal", "Nonlocal(None)", "Nonlocal(Index(Name a, Name b))", "Nonlocal(Name a, Int 1)"}},
	{"If",
		[]string{"If(Name a, Block(Pass), None)", "If(Name a, Block(Pass), Block(Pass))", "If(Name a, Block(Pass), Block(If(Name b, Block(Pass), None)))"},
		[]string{"If", "If(Name a)", "If(Name a, Block(Pass))", "If(Name a, Block(Pass), None, None)", "If(Name a, Block, None)", "If(Name a, Block(Pass), Block)", "If(None, Block(Pass), None)", "If(Name a, None, Block(Pass))", "If(Name a, Block(Pass), If(Name b, Block(Pass), None))", "If(Name a, Pass, None)", "If(Name a, Block(Pass), Pass)", "If(Pass, Block(Pass), None)"}},
	{"While",
		[]string{"While(Name a, Block(Pass))"},
		[]string{"While", "While(Name a)", "While(Block(Pass))", "While(Name a, Block)", "While(Name a, None)", "While(None, Block(Pass))", "While(Name a, Block(Pass), None)", "While(Name a, Block(Pass), Block(Pass))", "While(Name a, Pass)"}},
	{"For",
		[]string{"For(Name a, Name b, Block(Pass))", "For(Attr x(Name a), Name b, Block(Pass))", "For(Index(Name a, Int 0), Name b, Block(Pass))", "For(Targets(Name a, Name b), Name c, Block(Pass))"},
		[]string{"For", "For(Name a, Name b)", "For(Name a, Block(Pass))", "For(Name a, Name b, Block)", "For(Name a, Name b, None)", "For(None, Name b, Block(Pass))", "For(Name a, None, Block(Pass))", "For(Tuple(Name a, Name b), Name c, Block(Pass))", "For(Int 1, Name b, Block(Pass))", "For(Name a, Name b, Block(Pass), None)", "For(Name a, Targets(Name a, Name b), Block(Pass))", "For(Targets(Name a), Name c, Block(Pass))"}},
	{"Def",
		[]string{"Def f(Block(Pass))", "Def f(Param a(None), Block(Pass))", "Def f(Param a(None), Param a(Int 1), Param a, Block(Pass))"},
		[]string{"Def f", "Def f(Param a(None))", "Def f(Block)", "Def f(None)", "Def f(None, Block(Pass))", "Def f(Name a, Block(Pass))", "Def f(Block(Pass), Block(Pass))", "Def f(Block(Pass), Param a(None))", "Def f(Keyword a(Int 1), Block(Pass))", "Def f(Pass)", "Def f(Param a(None), Block(Pass), None)"}},
	{"Param",
		[]string{"Param a", "Param a(None)", "Param a(Int 1)", "Param a(Const None)"},
		[]string{"Param a(None, None)", "Param a(Int 1, Int 2)", "Param a(Pass)", "Param a(Pair(Name a, Name b))", "Param a(Block(Pass))", "Param a(None(None))", "Param a(Spread(Name a))"}},
	{"Class",
		[]string{"Class C(None, Block(Pass))", "Class C(Name B, Block(Pass))", "Class C(Call(Name f), Block(Pass))"},
		[]string{"Class C", "Class C(Block(Pass))", "Class C(None)", "Class C(None, Block)", "Class C(None, None)", "Class C(Name B, Name D, Block(Pass))", "Class C(Pass, Block(Pass))", "Class C(Block(Pass), None)", "Class C(None, Pass)", "Class C(None, Block(Pass), None)", "Class C(Keyword k(Int 1), Block(Pass))"}},
	{"Try",
		[]string{"Try(Block(Pass), Except(None, Block(Pass)))", "Try(Block(Pass), Except(Name E, Block(Pass)), Except e(Name E, Block(Pass)), Except(None, Block(Pass)))", "Try(Block(Pass), Except e(Name E, Block(Pass)))"},
		[]string{"Try", "Try(Block(Pass), Except, Except(None, Block(Pass)))", "Try(Block(Pass))", "Try(Except(None, Block(Pass)))", "Try(Block, Except(None, Block(Pass)))", "Try(None, Except(None, Block(Pass)))", "Try(Block(Pass), None)", "Try(Block(Pass), Block(Pass))", "Try(Block(Pass), Except(None, Block(Pass)), None)", "Try(Block(Pass), Except(None, Block(Pass)), Block(Pass))", "Try(Pass, Except(None, Block(Pass)))", "Try(Block(Pass), Except(None, Block(Pass)), Except(None, Block(Pass)))", "Try(Block(Pass), Except(None, Block(Pass)), Except(Name E, Block(Pass)))", "Try(Block(Pass), Except(Name E, Block(Pass)), Except(None, Block(Pass)), Except(Name E, Block(Pass)))"}},
	{"Except",
		[]string{"Except(None, Block(Pass))", "Except(Name E, Block(Pass))", "Except e(Name E, Block(Pass))", "Except e(Tuple(Name E, Name F), Block(Pass))"},
		[]string{"Except", "Except e", "Except(None)", "Except(Block(Pass))", "Except(Name E)", "Except(None, Block)", "Except(Name E, Block)", "Except e(None, Block(Pass))", "Except if(Name E, Block(Pass))", "Except 1(Name E, Block(Pass))", "Except(Name E, Block(Pass), None)", "Except(None, None)", "Except(Name E, Pass)", "Except(Pass, Block(Pass))", "Except(Pair(Name a, Name b), Block(Pass))"}},
	{"Targets",
		[]string{"Targets(Name a, Name b)", "Targets(Attr x(Name a), Index(Name b, Int 1), Name c, Name c)"},
		[]string{"Targets", "Targets(Name a)", "Targets(Name a, Int 1)", "Targets(Int 1, Name a)", "Targets(Name a, None)", "Targets(Name a, Name b, None)", "Targets(Name a, Targets(Name b, Name c))", "Targets(Name a, Tuple(Name b, Name c))", "Targets(Name a, Name b, Call(Name f))"}},
	{"Name", []string{"Name a", "Name _", "Name A1_"}, []string{"Name", "Name a(None)", "Name a(Name b)"}},
	{"Int", []string{"Int 0", "Int 1", "Int 4294967296"}, []string{"Int 1(None)", "Int 1(Int 1)", "Int 0(Name a)"}},
	{"Str", []string{"Str", "Str a", "Str if", "Str 1 + 1", "Str \u00f1\u2028\n'\"\\\x00"}, []string{"Str a(None)", "Str a(Str b)", "Str \xff", "Str a\xc3", "Str \xed\xa0\x80"}},
	{"Const",
		[]string{"Const None", "Const True", "Const False"},
		[]string{"Const", "Const none", "Const true", "Const a", "Const if", "Const 1", "Const None ", "Const True(None)", "Const NoneTrue"}},
	{"Tuple",
		[]string{"Tuple", "Tuple(Name a)", "Tuple(Name a, Tuple, Int 1)"},
		[]string{"Tuple(None)", "Tuple(Pass)", "Tuple(Spread(Name a))", "Tuple(Name a, Pair(Name a, Name b))", "Tuple(Name a, Keyword k(Name a))", "Tuple(Targets(Name a, Name b))", "Tuple(Name a, Name b, None)"}},
	{"List",
		[]string{"List", "List(Name a)", "List(Name a, List, Int 1)"},
		[]string{"List(None)", "List(Pass)", "List(Spread(Name a))", "List(Name a, Pair(Name a, Name b))", "List(Name a, None)"}},
	{"Set",
		[]string{"Set(Name a)", "Set(Name a, Set(Int 1), Int 1)"},
		[]string{"Set", "Set(None)", "Set(Pass)", "Set(Spread(Name a))", "Set(Pair(Name a, Name b))", "Set(Name a, None)"}},
	{"Dict",
		[]string{"Dict", "Dict(Pair(Name a, Name b))", "Dict(Spread(Name a))", "Dict(Spread(Name a), Pair(Name a, Name b), Spread(Name c), Pair(Name a, Name b))"},
		[]string{"Dict(Name a)", "Dict(None)", "Dict(Keyword k(Name a))", "Dict(Pair(Name a, Name b), None)", "Dict(Pair(Name a, Name b), Name a)", "Dict(Name a, Pair(Name a, Name b))"}},
	{"Pair",
		[]string{"Pair(Name a, Name b)", "Pair(Int 1, Tuple)"},
		[]string{"Pair", "Pair(Name a)", "Pair(Name a, Name b, Name c)", "Pair(Name a, None)", "Pair(None, Name a)", "Pair(Pair(Name a, Name b), Name c)", "Pair(Name a, Spread(Name b))"}},
	{"Spread",
		[]string{"Spread(Name a)", "Spread(Dict)"},
		[]string{"Spread", "Spread(None)", "Spread(Name a, Name b)", "Spread(Spread(Name a))", "Spread(Pass)"}},
	{"ListComp",
		[]string{"ListComp(Name a, Name b, Name c)", "ListComp(Name a, Targets(Name b, Name c), Name d, Name e, Name f, Int 1)", "ListComp(Name a, Attr x(Name b), Name c)", "ListComp(Name a, Index(Name b, Int 1), Name c, Name d)"},
		[]string{"ListComp", "ListComp(Name a)", "ListComp(Name a, Name b)", "ListComp(Pair(Name a, Name b), Name b, Name c)", "ListComp(Name a, Int 1, Name c)", "ListComp(Name a, Tuple(Name a, Name b), Name c)", "ListComp(Name a, Name b, None)", "ListComp(Name a, None, Name c)", "ListComp(None, Name b, Name c)", "ListComp(Name a, Name b, Name c, None)", "ListComp(Name a, Name b, Name c, Name d, Pass)", "ListComp(Name a, Name b, Targets(Name a, Name b))", "ListComp(Spread(Name a), Name b, Name c)", "ListComp(Name a, Targets(Name a), Name c)"}},
	{"SetComp",
		[]string{"SetComp(Name a, Name b, Name c)", "SetComp(Name a, Targets(Name b, Name c), Name d, Name e)"},
		[]string{"SetComp", "SetComp(Name a, Name b)", "SetComp(Pair(Name a, Name b), Name b, Name c)", "SetComp(Name a, Int 1, Name c)", "SetComp(Name a, Name b, None)", "SetComp(Name a, Name b, Name c, None)"}},
	{"DictComp",
		[]string{"DictComp(Pair(Name a, Name b), Name b, Name c)", "DictComp(Pair(Name a, Name b), Targets(Name b, Name c), Name d, Name e, Name f)"},
		[]string{"DictComp", "DictComp(Pair(Name a, Name b), Name b)", "DictComp(Name a, Name b, Name c)", "DictComp(Spread(Name a), Name b, Name c)", "DictComp(None, Name b, Name c)", "DictComp(Pair(Name a, Name b), None, Name c)", "DictComp(Pair(Name a, Name b), Name b, None)", "DictComp(Pair(Name a, Name b), Name b, Name c, Pair(Name a, Name b))", "DictComp(Name a, Name a, Name b, Name c)"}},
	{"Choose",
		[]string{"Choose(Name a, Name b, Name c)", "Choose(Tuple, Choose(Name a, Name b, Name c), Int 1)"},
		[]string{"Choose", "Choose(Name a, Name b)", "Choose(Name a, Name b, Name c, Name d)", "Choose(Name a, Name b, None)", "Choose(Name a, None, Name b)", "Choose(None, Name a, Name b)", "Choose(Name a, Name b, Pass)"}},
	{"Or",
		[]string{"Or(Name a, Name b)", "Or(Or(Name a, Name b), Or(Name c, Name d))"},
		[]string{"Or", "Or(Name a)", "Or(Name a, Name b, Name c)", "Or(None, Name a)", "Or(Name a, None)", "Or(Name a, Pair(Name a, Name b))"}},
	{"And",
		[]string{"And(Name a, Name b)"},
		[]string{"And", "And(Name a)", "And(Name a, Name b, Name c)", "And(None, Name a)", "And(Name a, None)", "And(Spread(Name a), Name b)"}},
	{"Not",
		[]string{"Not(Name a)", "Not(Not(Int 0))"},
		[]string{"Not", "Not(None)", "Not(Name a, Name b)", "Not(Pass)", "Not(Keyword k(Name a))"}},
	{"Negative",
		[]string{"Negative(Name a)", "Negative(Int 0)", "Negative(Negative(Int 1))"},
		[]string{"Negative", "Negative(None)", "Negative(Name a, Name b)", "Negative(Pass)", "Negative(Targets(Name a, Name b))"}},
	{"Compare",
		[]string{"Compare ==(Name a, Name b)", "Compare !=(Name a, Name b)", "Compare <(Name a, Name b)", "Compare <=(Name a, Name b)", "Compare >(Name a, Name b)", "Compare >=(Name a, Name b)", "Compare in(Name a, Name b)", "Compare not in(Name a, Name b)", "Compare is(Name a, Name b)", "Compare is not(Name a, Name b)"},
		[]string{"Compare(Name a, Name b)", "Compare =(Name a, Name b)", "Compare not(Name a, Name b)", "Compare not  in(Name a, Name b)", "Compare in not(Name a, Name b)", "Compare notin(Name a, Name b)", "Compare not is(Name a, Name b)", "Compare +(Name a, Name b)", "Compare <>(Name a, Name b)", "Compare ==", "Compare ==(Name a)", "Compare ==(Name a, Name b, Name c)", "Compare ==(Name a, None)", "Compare ==(None, Name a)", "Compare == (Name a, Name b)", "Compare or(Name a, Name b)"}},
	{"Binary",
		[]string{"Binary +(Name a, Name b)", "Binary -(Name a, Name b)", "Binary *(Name a, Name b)", "Binary //(Name a, Name b)", "Binary %(Name a, Name b)", "Binary &(Name a, Name b)", "Binary |(Name a, Name b)", "Binary ^(Name a, Name b)"},
		[]string{"Binary(Name a, Name b)", "Binary **(Name a, Name b)", "Binary /(Name a, Name b)", "Binary +=(Name a, Name b)", "Binary ==(Name a, Name b)", "Binary in(Name a, Name b)", "Binary ++(Name a, Name b)", "Binary +", "Binary +(Name a)", "Binary +(Name a, Name b, Name c)", "Binary +(Name a, None)", "Binary +(None, Name a)", "Binary ~(Name a, Name b)", "Binary <(Name a, Name b)"}},
	{"Call",
		[]string{"Call(Name f)", "Call(Name f, Name a)", "Call(Call(Name f), Name a, Int 1)", "Call(Name f, Keyword k(Name a), Keyword k(Name b))", "Call(Name f, Spread(Name a))", "Call(Name f, Name a, Keyword k(Name b), Spread(Name c))"},
		[]string{"Call", "Call(None)", "Call(Keyword k(Name a))", "Call(Spread(Name a))", "Call(Name f, None)", "Call(Name f, Pair(Name a, Name b))", "Call(Name f, Pass)", "Call(Name f, Spread(Name a), Spread(Name b))", "Call(Name f, Name a, Keyword k(Name b), Spread(Name c), None)", "Call(Name f, Targets(Name a, Name b))"}},
	{"Keyword",
		[]string{"Keyword k(Name a)", "Keyword k(Tuple)"},
		[]string{"Keyword k", "Keyword k(None)", "Keyword k(Name a, Name b)", "Keyword k(Spread(Name a))", "Keyword k(Keyword k(Name a))"}},
	{"Attr",
		[]string{"Attr x(Name a)", "Attr x(Attr y(Int 1))"},
		[]string{"Attr x", "Attr x(None)", "Attr x(Name a, Name b)", "Attr x(Pass)", "Attr x(Pair(Name a, Name b))"}},
	{"Index",
		[]string{"Index(Name a, Int 0)", "Index(Index(Name a, Int 0), Tuple(Int 1, Int 2))"},
		[]string{"Index", "Index(Name a)", "Index(Name a, Name b, Name c)", "Index(Name a, None)", "Index(None, Name a)", "Index(Name a, Pair(Name a, Name b))", "Index(Targets(Name a, Name b), Int 1)"}},
}

// home is a module in which a node stands where one of a kind may stand.
func home(kind string, n api.Node) api.Node {
	body := one("Block(Pass)")
	switch kind {
	case "Module":
		return n
	case "Block":
		return moduleOf(api.Node{Kind: api.NodeWhile, Kids: []api.Node{one("Name a"), n}})
	case "Param":
		return moduleOf(api.Node{Kind: api.NodeDef, Text: "f", Kids: []api.Node{n, body}})
	case "Except":
		return moduleOf(api.Node{Kind: api.NodeTry, Kids: []api.Node{body, n}})
	case "Targets":
		return moduleOf(api.Node{Kind: api.NodeUnpack, Kids: []api.Node{n, one("Name a")}})
	case "Pair", "Spread":
		return home("Dict", api.Node{Kind: api.NodeDict, Kids: []api.Node{n}})
	case "Keyword":
		return home("Call", api.Node{Kind: api.NodeCall, Kids: []api.Node{one("Name f"), n}})
	case "None":
		return moduleOf(api.Node{Kind: api.NodeReturn, Kids: []api.Node{n}})
	}
	if kindOf(kind) < api.NodeName {
		return moduleOf(n)
	}
	return moduleOf(api.Node{Kind: api.NodeExpr, Kids: []api.Node{n}})
}

// checks fails unless Check says so of a tree, the model too, and Print goes
// by it.
func checks(t *testing.T, promise, what string, n api.Node, want api.Errno) {
	t.Helper()
	if got := tree.Check(n); got != want {
		t.Errorf("%s: %s: Check is %d, not %d", promise, what, got, want)
	}
	if got := modelCheck(n); got != want {
		t.Errorf("%s: %s: the model's Check is %d, not %d", promise, what, got, want)
	}
	if got, text := tree.Print(n), modelPrint(n); got != text {
		t.Errorf("P14.4: %s: Print is %.200q, not %.200q", what, got, text)
	}
}

func taken(t *testing.T, promise, kind string, n api.Node) {
	t.Helper()
	checks(t, promise, tell(n), home(kind, n), api.OK)
}

func refused(t *testing.T, promise, kind string, n api.Node) {
	t.Helper()
	checks(t, promise, tell(n), home(kind, n), api.ErrShape)
}

// agree fails unless all calls say of a tree what the model says.
func agree(t *testing.T, n api.Node) {
	t.Helper()
	before := tell(n)
	checks(t, "P14.2", before, n, modelCheck(n))
	if got, want := tree.Depth(n), modelDepth(n); got != want {
		t.Errorf("P14.1: Depth of %s is %d, not %d", before, got, want)
	}
	if got, want := tree.Size(n), modelSize(n); got != want {
		t.Errorf("P14.1: Size of %s is %d, not %d", before, got, want)
	}
	if got, want := told(n), modelAll(n, 0); !slices.Equal(got, want) {
		t.Errorf("P14.1: All of %s is\n%s", before, strings.Join(got, "\n"))
	}
	if got, want := tell(tree.Bare(n)), tell(placed(n, func() int { return 0 })); got != want {
		t.Errorf("P14.3: Bare of %s is %s", before, got)
	}
	if after := tell(n); after != before {
		t.Errorf("P14.7: %s was turned into %s", before, after)
	}
}

// told is what All tells, a text a node.
func told(n api.Node) (list []string) {
	for within, node := range tree.All(n) {
		list = append(list, fmt.Sprint(within, ": ", tell(node)))
	}
	return list
}

// placed is a tree with other places.
func placed(n api.Node, at func() int) api.Node {
	n.At = at()
	kids := n.Kids
	n.Kids = nil
	for _, kid := range kids {
		n.Kids = append(n.Kids, placed(kid, at))
	}
	return n
}

func TestP14_1DepthAndSize(t *testing.T) {
	for _, c := range []struct {
		notation    string
		depth, size int
	}{
		{"None", 1, 1}, {"Pass", 1, 1}, {"Name a", 1, 1}, {"Not(Name a)", 2, 2}, {"Return(None)", 2, 2},
		{"Tuple(Name a, Name b, Name c)", 2, 4}, {"Tuple(Tuple(Tuple), Tuple)", 3, 4}, {"Tuple(Tuple, Tuple(Tuple))", 3, 4},
		{"Tuple(Tuple(Name a, Name b), Tuple(Tuple(Name c)), Name d)", 4, 8},
		{"Module(Block)", 2, 2}, {"Module(Block(Return(None), Expr(Tuple(Name a, Int 7))))", 5, 8},
		{"Pass(Module(None), None(Pass(Pass)))", 4, 6},
	} {
		n := one(c.notation)
		if got := tree.Depth(n); got != c.depth {
			t.Errorf("P14.1: Depth of %s: %d", c.notation, got)
		}
		if got := tree.Size(n); got != c.size {
			t.Errorf("P14.1: Size of %s: %d", c.notation, got)
		}
		agree(t, n)
	}
	agree(t, api.Node{})
	agree(t, api.Node{Kind: -5, Text: "x", At: 3, Num: api.Int{Neg: true, Mag: []uint32{0, 0}}, Kids: make([]api.Node, 3)})
	agree(t, api.Node{Kind: 1 << 62, Kids: []api.Node{}})
}

func TestP14_1All(t *testing.T) {
	n := module("Return(None), Expr(Tuple(Name a, Int 7)), If(Name b, Block(Pass), Block(Break))")
	var got []string
	for within, node := range tree.All(n) {
		got = append(got, strings.TrimSpace(fmt.Sprint(within, kindNames[node.Kind], node.Text, " ", len(node.Kids))))
	}
	want := "0Module 1, 1Block 3, 2Return 1, 3None 0, 2Expr 1, 3Tuple 2, 4Namea 0, 4Int 0, 2If 3, 3Nameb 0, 3Block 1, 4Pass 0, 3Block 1, 4Break 0"
	if text := strings.Join(got, ", "); text != want {
		t.Errorf("P14.1: All is\n%s, not\n%s", text, want)
	}
}

func TestP14_1AllLeftAtEveryNode(t *testing.T) {
	for _, notation := range []string{"None", "Tuple(Name a, Name b)", "Module(Block(Return(None), Expr(Tuple(Name a, Not(Int 7))), If(Name b, Block(Pass), Block(Break))))"} {
		n := one(notation)
		all := modelAll(n, 0)
		walk := tree.All(n)
		for stop := range len(all) {
			var got []string
			for within, node := range walk {
				got = append(got, fmt.Sprint(within, ": ", tell(node)))
				if len(got) == stop+1 {
					break
				}
			}
			if !slices.Equal(got, all[:stop+1]) {
				t.Errorf("P14.1: All of %s, left at node %d: %v", notation, stop, got)
			}
			calls := 0
			walk(func(int, api.Node) bool {
				calls++
				return calls <= stop
			})
			if calls != stop+1 {
				t.Errorf("P14.1: All of %s, left at node %d, tells %d", notation, stop, calls)
			}
		}
	}
}

func TestP14_2Rows(t *testing.T) {
	seen := map[string]int{}
	for _, row := range rows {
		seen[row.kind]++
		for _, notation := range row.taken {
			taken(t, "P14.2", row.kind, one(notation))
		}
		for _, notation := range row.refused {
			refused(t, "P14.2", row.kind, one(notation))
		}
	}
	for kind, name := range kindNames {
		if kind != 0 && seen[name] != 1 {
			t.Errorf("no row of %s", name)
		}
	}
}

func TestP14_2WhatNoRowNames(t *testing.T) {
	nums := []api.Int{{Neg: true}, {Mag: []uint32{0}}, {Mag: []uint32{1}}, {Mag: []uint32{0, 1}}, {Neg: true, Mag: []uint32{1}}}
	texts := []string{"a", "x1", " ", "None", "pass", "+", "==", "0", "\x00", "\xff", "_"}
	for _, row := range append(rows, struct {
		kind           string
		taken, refused []string
	}{"None", []string{"None"}, nil}) {
		for _, notation := range row.taken {
			n := one(notation)
			for _, at := range []int{-1, 1, 1 << 62, -1 << 63} {
				n.At = at
				taken(t, "P14.2", row.kind, n)
			}
			n.Num.Mag, n.Kids = append([]uint32{}, n.Num.Mag...), append([]api.Node{}, n.Kids...)
			taken(t, "P14.2", row.kind, n)
			if row.kind != "Int" {
				for _, num := range nums {
					n.Num = num
					refused(t, "P14.2", row.kind, n)
				}
				n.Num = api.Int{}
			}
			if _, ok := rowText[row.kind]; !ok {
				for _, text := range texts {
					n.Text = text
					refused(t, "P14.2", row.kind, n)
				}
			}
		}
	}
	for _, wrong := range []api.Node{{Text: "x"}, {Num: api.Int{Neg: true}}, {Num: api.Int{Mag: []uint32{0}}}, {Kids: make([]api.Node, 1)}, {Kids: []api.Node{one("Name a")}}} {
		for _, kind := range []string{"Return", "Raise"} {
			refused(t, "P14.2", kind, api.Node{Kind: kindOf(kind), Kids: []api.Node{wrong}})
		}
		refused(t, "P14.2", "Param", api.Node{Kind: api.NodeParam, Text: "a", Kids: []api.Node{wrong}})
		refused(t, "P14.2", "If", api.Node{Kind: api.NodeIf, Kids: []api.Node{one("Name a"), one("Block(Pass)"), wrong}})
		refused(t, "P14.2", "Class", api.Node{Kind: api.NodeClass, Text: "C", Kids: []api.Node{wrong, one("Block(Pass)")}})
		refused(t, "P14.2", "Except", api.Node{Kind: api.NodeExcept, Kids: []api.Node{wrong, one("Block(Pass)")}})
	}
}

// samples is a node of each kind, and some of no kind.
func samples() (list []api.Node) {
	for _, row := range rows {
		list = append(list, one(row.taken[0]))
	}
	list = append(list, api.Node{}, api.Node{At: 7}, one("Block"), one("Param a(None)"), one("Param a(Int 1)"), one("Except(Name E, Block(Pass))"))
	for _, kind := range []int{-1, 24, 30, 55, 99, 1 << 40} {
		list = append(list, api.Node{Kind: kind})
	}
	return list
}

func TestP14_2EveryKidOfEveryRow(t *testing.T) {
	fine := 0
	try := func(kind string, n api.Node) {
		t.Helper()
		whole := home(kind, n)
		want := modelCheck(whole)
		checks(t, "P14.2", tell(n), whole, want)
		if want == api.OK {
			fine++
		}
	}
	for _, row := range rows {
		for _, notation := range row.taken {
			n := one(notation)
			kids := n.Kids
			for i := range len(kids) + 1 {
				for _, kid := range samples() {
					n.Kids = slices.Insert(slices.Clone(kids), i, kid)
					try(row.kind, n)
					if i < len(kids) {
						n.Kids = slices.Clone(kids)
						n.Kids[i] = kid
						try(row.kind, n)
					}
				}
				if i < len(kids) {
					n.Kids = slices.Delete(slices.Clone(kids), i, i+1)
					try(row.kind, n)
					n.Kids = slices.Clone(kids)
					n.Kids[0], n.Kids[i] = n.Kids[i], n.Kids[0]
					try(row.kind, n)
				}
			}
		}
	}
	if fine < 1000 {
		t.Errorf("only %d were fine", fine)
	}
}

func TestP14_2Kinds(t *testing.T) {
	checks(t, "P14.2", "the zero Node", api.Node{}, api.ErrShape)
	for kind := -3; kind < 70; kind++ {
		for _, kids := range [][]api.Node{nil, {one("Block")}, {one("Block(Pass)")}, {one("Name a")}, {one("None")}} {
			n := api.Node{Kind: kind, Kids: kids}
			want := api.ErrShape
			if kind == api.NodeModule && len(kids) == 1 && kids[0].Kind == api.NodeBlock {
				want = api.OK
			}
			checks(t, "P14.2", tell(n), n, want)
		}
		n := api.Node{Kind: kind}
		for _, whole := range []api.Node{moduleOf(n), moduleOf(api.Node{Kind: api.NodeExpr, Kids: []api.Node{n}}), moduleOf(api.Node{Kind: api.NodeReturn, Kids: []api.Node{n}})} {
			checks(t, "P14.2", tell(whole), whole, modelCheck(whole))
		}
	}
	for _, kind := range []int{-1 << 63, 1<<63 - 1, 256 + 1, 1 << 32, 1<<32 + 1, 1<<32 + 8} {
		checks(t, "P14.2", fmt.Sprint("kind ", kind), moduleOf(api.Node{Kind: kind}), api.ErrShape)
		checks(t, "P14.2", fmt.Sprint("kind ", kind), api.Node{Kind: kind, Kids: []api.Node{one("Block")}}, api.ErrShape)
	}
}

func TestP14_2Names(t *testing.T) {
	good := []string{"a", "z", "A", "Z", "_", "__", "a0", "a9", "_9", "aA_0", "iff", "i", "ifs", "If", "IF", "none", "true", "false", "NONE", "print", "self", "lambda", "import", "and_", "_and", strings.Repeat("a", 100000)}
	bad := []string{"", "0", "9a", "0_", " ", " a", "a ", "a b", "a.b", "a-b", "a=", "a\n", "\na", "a\x00", "\x00", "@", "a[", "`", "{a", "a/", "a:", "^", "\x80", "a\x80", "\xff", "\u00e9", "a\u00e9", "\u00e9a", "\u0661", "a\u0661", "**a", "a,b", "'a'"}
	bad = append(bad, strings.Fields(wordList)...)
	rest := map[string]string{"Name": "Name a", "Def": "Def f(Block(Pass))", "Param": "Param a(None)", "Class": "Class C(None, Block(Pass))", "Keyword": "Keyword k(Name a)", "Attr": "Attr x(Name a)", "Except": "Except e(Name E, Block(Pass))"}
	for kind, notation := range rest {
		n := one(notation)
		for _, name := range good {
			n.Text = name
			taken(t, "P14.2", kind, n)
		}
		for _, name := range bad {
			n.Text = name
			if kind == "Except" && name == "" {
				taken(t, "P14.2", kind, n)
			} else {
				refused(t, "P14.2", kind, n)
			}
		}
	}
	for c := range 256 {
		n := api.Node{Kind: api.NodeName, Text: string([]byte{byte(c)})}
		letter := c >= 'a' && c <= 'z' || c >= 'A' && c <= 'Z' || c == '_'
		if got := tree.Check(home("Name", n)) == api.OK; got != letter {
			t.Errorf("P14.2: the name %q: %t", n.Text, got)
		}
		n.Text = "b" + n.Text
		if got := tree.Check(home("Name", n)) == api.OK; got != (letter || c >= '0' && c <= '9') {
			t.Errorf("P14.2: the name %q: %t", n.Text, got)
		}
	}
}

func TestP14_2Ints(t *testing.T) {
	full := func(words int, last uint32) []uint32 {
		mag := make([]uint32, words)
		mag[words-1] = last
		return mag
	}
	for _, mag := range [][]uint32{nil, {}, {1}, {1<<32 - 1}, {0, 1}, {1, 1}, full(api.MaxLimbs, 1), full(api.MaxLimbs, 1<<32-1)} {
		n := api.Node{Kind: api.NodeInt, Num: api.Int{Mag: mag}}
		taken(t, "P14.2", "Int", n)
		n.Num.Neg = true
		refused(t, "P14.2", "Int", n)
		n.Num.Neg = false
		for _, text := range []string{"1", "0", "a", " "} {
			n.Text = text
			refused(t, "P14.2", "Int", n)
		}
	}
	for _, mag := range [][]uint32{{0}, {0, 0}, {1, 0}, {0, 1, 0}, full(api.MaxLimbs, 0), full(api.MaxLimbs+1, 1), full(api.MaxLimbs+1, 0), full(2*api.MaxLimbs, 1)} {
		refused(t, "P14.2", "Int", api.Node{Kind: api.NodeInt, Num: api.Int{Mag: mag}})
	}
}

// rounds calls with every row of so many of a choice's letters.
func rounds(choice string, most int, call func(string)) {
	list := []string{""}
	for len(list) > 0 {
		s := list[0]
		list = list[1:]
		call(s)
		if len(s) < most {
			for _, c := range choice {
				list = append(list, s+string(c))
			}
		}
	}
}

func TestP14_2ParamsInEveryOrder(t *testing.T) {
	kinds := map[rune]string{'n': "Param a(None), ", 'd': "Param b(Int 1), ", 'r': "Param c, "}
	rounds("ndr", 5, func(order string) {
		notation := "Def f("
		for _, c := range order {
			notation += kinds[c]
		}
		notation += "Block(Pass))"
		want := api.OK
		if strings.Contains(order, "dn") || strings.Contains(strings.TrimSuffix(order, "r"), "r") {
			want = api.ErrShape
		}
		checks(t, "P14.2", notation, module(notation), want)
	})
	for _, wrong := range []string{"Param a", "Expr(Param a)", "Block(Param a)", "While(Name a, Block(Param a))", "Call(Name f, Param a)", "Expr(Call(Name f, Param a(None)))", "Class C(Param a, Block(Pass))", "Def f(Block(Param a))", "Expr(Tuple(Param a(Int 1)))", "Try(Block(Pass), Param a)"} {
		checks(t, "P14.2", wrong, module(wrong), api.ErrShape)
	}
}

func TestP14_2ExceptsInEveryOrder(t *testing.T) {
	kinds := map[rune]string{'c': ", Except(Name E, Block(Pass))", 'n': ", Except e(Name E, Block(Pass))", 'a': ", Except(None, Block(Pass))", 'w': ", Except e(None, Block(Pass))"}
	rounds("cnaw", 4, func(order string) {
		notation := "Try(Block(Pass)"
		for _, c := range order {
			notation += kinds[c]
		}
		notation += ")"
		want := api.OK
		if order == "" || strings.Contains(order, "w") || strings.Contains(strings.TrimSuffix(order, "a"), "a") {
			want = api.ErrShape
		}
		checks(t, "P14.2", notation, module(notation), want)
	})
}

func TestP14_2CallsInEveryOrder(t *testing.T) {
	kinds := map[rune]string{'e': ", Name a", 'k': ", Keyword k(Name b)", 's': ", Spread(Name c)", 'p': ", Pair(Name a, Name b)"}
	rounds("eksp", 4, func(order string) {
		notation := "Expr(Call(Name f"
		for _, c := range order {
			notation += kinds[c]
		}
		notation += "))"
		want := api.OK
		rest := strings.TrimLeft(strings.TrimLeft(order, "e"), "k")
		if rest != "" && rest != "s" {
			want = api.ErrShape
		}
		checks(t, "P14.2", notation, module(notation), want)
	})
}

// chain is an expression of so many nodes within one another.
func chain(nodes int) api.Node {
	n := one("Name a")
	for range nodes - 1 {
		n = api.Node{Kind: api.NodeNot, Kids: []api.Node{n}}
	}
	return n
}

func TestP14_2MaxTree(t *testing.T) {
	expr := func(nodes int) api.Node {
		return moduleOf(one("Pass"), api.Node{Kind: api.NodeExpr, Kids: []api.Node{chain(nodes - 3)}}, one("Pass"))
	}
	blocks := func(nodes int) api.Node { // an odd number stands for a Return, whose Kid is NodeNone
		n := one("Pass")
		rest := nodes - 3
		if rest%2 == 1 {
			n = one("Return(None)")
			rest--
		}
		for range rest / 2 {
			n = api.Node{Kind: api.NodeWhile, Kids: []api.Node{one("Name a"), {Kind: api.NodeBlock, Kids: []api.Node{n}}}}
		}
		return moduleOf(n)
	}
	for _, c := range []struct {
		nodes int
		want  api.Errno
	}{{5, api.OK}, {100, api.OK}, {299, api.OK}, {300, api.OK}, {301, api.ErrShape}, {302, api.ErrShape}, {1000, api.ErrShape}} {
		for _, n := range []api.Node{expr(c.nodes), blocks(c.nodes)} {
			if got := tree.Depth(n); got != c.nodes {
				t.Errorf("P14.1: Depth is %d, not %d", got, c.nodes)
			}
			checks(t, "P14.2", fmt.Sprint("depth ", c.nodes), n, c.want)
		}
	}
}

func TestGreatTrees(t *testing.T) {
	deep := moduleOf(api.Node{Kind: api.NodeExpr, Kids: []api.Node{chain(60000)}})
	if tree.Depth(deep) != 60003 || tree.Size(deep) != 60003 || tree.Check(deep) != api.ErrShape || tree.Print(deep) != "" {
		t.Errorf("P14.1: a deep tree: %d, %d", tree.Depth(deep), tree.Size(deep))
	}
	deep.Kids[0].Kids[0].Kids[0].At = 8
	if bare := tree.Bare(deep); tree.Depth(bare) != 60003 || bare.Kids[0].Kids[0].Kids[0].At != 0 {
		t.Error("P14.3: a deep tree's Bare")
	}
	for within, n := range tree.All(deep) {
		if within == 9 {
			if tree.Depth(n) != 59994 {
				t.Errorf("P14.1: node 9 of a deep tree: Depth %d", tree.Depth(n))
			}
			break
		}
	}
	wide := api.Node{Kind: api.NodeTuple, Kids: slices.Repeat([]api.Node{one("Name a")}, 100000)}
	whole := home("Tuple", wide)
	if got := tree.Print(whole); got != "("+strings.Repeat("a, ", 99999)+"a)\n" || tree.Size(whole) != 100004 {
		t.Errorf("P14.4: a wide tree: %d bytes, Size %d", len(got), tree.Size(whole))
	}
	count := 0
	for range tree.All(wide) {
		count++
	}
	if count != 100001 {
		t.Errorf("P14.6: All of a wide tree tells %d", count)
	}
}

func TestP14_3Bare(t *testing.T) {
	next := 0
	count := func() int { next++; return next * 7919 % 1000 }
	for _, row := range rows {
		for _, notation := range append(slices.Clone(row.taken), row.refused...) {
			n := placed(one(notation), count)
			bare := tree.Bare(n)
			if got, want := tell(bare), tell(one(notation)); got != want {
				t.Errorf("P14.3: Bare of %s is %s", tell(n), got)
			}
			if got := tell(tree.Bare(bare)); got != tell(bare) {
				t.Errorf("P14.3: Bare of Bare is %s", got)
			}
		}
	}
	if got := tell(tree.Bare(api.Node{At: -9})); got != tell(api.Node{}) {
		t.Errorf("P14.3: Bare of a NodeNone is %s", got)
	}
	odd := api.Node{Kind: 77, At: 1, Text: "\xff", Num: api.Int{Neg: true, Mag: []uint32{3, 0}}, Kids: []api.Node{{At: 2, Num: api.Int{Mag: []uint32{0}}}}}
	if got, want := tell(tree.Bare(odd)), tell(placed(odd, func() int { return 0 })); got != want {
		t.Errorf("P14.3: Bare of %s is %s", tell(odd), got)
	}
}

// prints fails unless a module of statements is printed so.
func prints(t *testing.T, notation, want string) {
	t.Helper()
	n := module(notation)
	if got := tree.Print(n); got != want {
		t.Errorf("P14.4: Print of %s is\n%q, not\n%q", notation, got, want)
	}
	agree(t, n)
	lexes(t, n)
}

func TestP14_4Statements(t *testing.T) {
	for notation, want := range map[string]string{
		"":                                  "",
		"Expr(Name a)":                      "a\n",
		"Expr(Name a), Expr(Name b)":        "a\nb\n",
		"Assign(Name a, Int 1)":             "a = 1\n",
		"Assign(Attr x(Name a), Name b)":    "a.x = b\n",
		"Assign(Index(Name a, Int 1), Str)": "a[1] = ''\n",
		"Assign(Attr x(Int 5), Name b)":     "(5).x = b\n",
		"Unpack(Targets(Name a, Attr x(Name b), Index(Name c, Int 0)), Name d)":                                   "a, b.x, c[0] = d\n",
		"Augment +(Name a, Int 1), Augment -(Name a, Int 1), Augment *(Name a, Int 1), Augment //(Name a, Int 1)": "a += 1\na -= 1\na *= 1\na //= 1\n",
		"Augment %(Name a, Int 1), Augment &(Name a, Int 1), Augment |(Name a, Int 1), Augment ^(Name a, Int 1)":  "a %= 1\na &= 1\na |= 1\na ^= 1\n",
		"Augment +(Index(Name a, Name b), Binary +(Name c, Name d))":                                              "a[b] += (c + d)\n",
		"Del(Name a), Del(Attr x(Name a)), Del(Index(Name a, Int 1))":                                             "del a\ndel a.x\ndel a[1]\n",
		"Pass, Break, Continue": "pass\nbreak\ncontinue\n",
		"Return(None), Return(Name a), Return(Const None), Return(Tuple)":           "return\nreturn a\nreturn None\nreturn ()\n",
		"Raise(None), Raise(Name a), Raise(Call(Name E))":                           "raise\nraise a\nraise E()\n",
		"Global(Name a), Global(Name a, Name b, Name c)":                            "global a\nglobal a, b, c\n",
		"Nonlocal(Name a), Nonlocal(Name a, Name b)":                                "nonlocal a\nnonlocal a, b\n",
		"If(Name a, Block(Pass), None)":                                             "if a:\n pass\n",
		"If(Name a, Block(Pass, Break), Block(Continue)), Pass":                     "if a:\n pass\n break\nelse:\n continue\npass\n",
		"If(Name a, Block(Pass), Block(If(Name b, Block(Pass), None)))":             "if a:\n pass\nelse:\n if b:\n  pass\n",
		"If(Name a, Block(If(Name b, Block(Pass), Block(Break))), Block(Continue))": "if a:\n if b:\n  pass\n else:\n  break\nelse:\n continue\n",
		"While(Name a, Block(Pass)), Pass":                                          "while a:\n pass\npass\n",
		"For(Name a, Name b, Block(Pass))":                                          "for a in b:\n pass\n",
		"For(Attr x(Name a), Tuple(Int 1), Block(Pass))":                            "for a.x in (1,):\n pass\n",
		"For(Targets(Name a, Index(Name b, Int 1)), Name c, Block(Pass))":           "for a, b[1] in c:\n pass\n",
		"Def f(Block(Pass))":                      "def f():\n pass\n",
		"Def f(Param a(None), Block(Pass))":       "def f(a):\n pass\n",
		"Def f(Param a(Int 1), Block(Pass))":      "def f(a=1):\n pass\n",
		"Def f(Param a(Const None), Block(Pass))": "def f(a=None):\n pass\n",
		"Def f(Param a, Block(Pass))":             "def f(**a):\n pass\n",
		"Def f(Param a(None), Param b(None), Param c(Int 1), Param d(Tuple), Param e, Block(Return(Name a)))": "def f(a, b, c=1, d=(), **e):\n return a\n",
		"Class C(None, Block(Pass))":   "class C:\n pass\n",
		"Class C(Name B, Block(Pass))": "class C(B):\n pass\n",
		"Class C(Tuple, Block(Def f(Param self(None), Block(Pass)), Assign(Name x, Int 1)))":                                                  "class C(()):\n def f(self):\n  pass\n x = 1\n",
		"Try(Block(Pass), Except(None, Block(Pass)))":                                                                                         "try:\n pass\nexcept:\n pass\n",
		"Try(Block(Pass), Except(Name E, Block(Pass, Break)), Except e(Name F, Block(Raise(None))), Except(None, Block(Return(None)))), Pass": "try:\n pass\nexcept E:\n pass\n break\nexcept F as e:\n raise\nexcept:\n return\npass\n",
		"While(Name a, Block(Try(Block(Pass), Except(Tuple(Name E, Name F), Block(Pass))), Pass))":                                            "while a:\n try:\n  pass\n except (E, F):\n  pass\n pass\n",
		"While(Name a, Block(While(Name b, Block(While(Name c, Block(Pass)), Break)), Continue)), Pass":                                       "while a:\n while b:\n  while c:\n   pass\n  break\n continue\npass\n",
	} {
		prints(t, notation, want)
	}
}

func TestP14_4Expressions(t *testing.T) {
	for notation, want := range map[string]string{
		"Name a": "a", "Name __eq__": "__eq__", "Int 0": "0", "Int 18446744073709551616": "18446744073709551616",
		"Str": "''", "Str a": "'a'", "Str it's": `'it\'s'`, "Str \n\x00\u2028\u00f1": `'\n\x00\u2028` + "\u00f1'",
		"Const None": "None", "Const True": "True", "Const False": "False",
		"Tuple": "()", "Tuple(Int 1)": "(1,)", "Tuple(Int 1, Int 2)": "(1, 2)", "Tuple(Tuple(Tuple))": "(((),),)", "Tuple(Name a, Name b, Name c)": "(a, b, c)",
		"List": "[]", "List(Int 1)": "[1]", "List(Int 1, List)": "[1, []]",
		"Set(Int 1)": "{1}", "Set(Int 1, Name a, Set(Name b))": "{1, a, {b}}",
		"Dict": "{}", "Dict(Pair(Int 1, Str a))": "{1: 'a'}", "Dict(Spread(Name a))": "{**a}",
		"Dict(Spread(Name a), Pair(Name b, Name c), Pair(Int 1, Dict), Spread(Dict))":   "{**a, b: c, 1: {}, **{}}",
		"ListComp(Name a, Name b, Name c)":                                              "[a for b in c]",
		"ListComp(Name a, Targets(Name a, Name b), Name c, Name d, Not(Name e))":        "[a for a, b in c if d if (not e)]",
		"SetComp(Name a, Attr x(Name b), Name c)":                                       "{a for b.x in c}",
		"SetComp(Tuple(Name a), Index(Name b, Int 0), Name c, Name d)":                  "{(a,) for b[0] in c if d}",
		"DictComp(Pair(Name a, Name b), Name c, Name d)":                                "{a: b for c in d}",
		"DictComp(Pair(Name a, Name b), Targets(Name a, Name b), Name d, Name e)":       "{a: b for a, b in d if e}",
		"Choose(Name a, Name b, Name c)":                                                "(a if b else c)",
		"Choose(Choose(Name a, Name b, Name c), Int 1, Choose(Name d, Name e, Name f))": "((a if b else c) if 1 else (d if e else f))",
		"Or(Name a, Name b)": "(a or b)", "And(Name a, Name b)": "(a and b)", "Or(And(Name a, Name b), Or(Name c, Name d))": "((a and b) or (c or d))",
		"Not(Name a)": "(not a)", "Not(Not(Name a))": "(not (not a))", "Negative(Int 1)": "(-1)", "Negative(Negative(Name a))": "(-(-a))",
		"Compare ==(Name a, Name b)": "(a == b)", "Compare !=(Name a, Name b)": "(a != b)", "Compare <(Name a, Name b)": "(a < b)",
		"Compare <=(Name a, Name b)": "(a <= b)", "Compare >(Name a, Name b)": "(a > b)", "Compare >=(Name a, Name b)": "(a >= b)",
		"Compare in(Name a, Name b)": "(a in b)", "Compare not in(Name a, Name b)": "(a not in b)", "Compare is(Name a, Name b)": "(a is b)",
		"Compare is not(Name a, Name b)": "(a is not b)", "Compare in(Compare in(Name a, Name b), Name c)": "((a in b) in c)",
		"Binary +(Name a, Name b)": "(a + b)", "Binary -(Name a, Name b)": "(a - b)", "Binary *(Name a, Name b)": "(a * b)",
		"Binary //(Name a, Name b)": "(a // b)", "Binary %(Name a, Name b)": "(a % b)", "Binary &(Name a, Name b)": "(a & b)",
		"Binary |(Name a, Name b)": "(a | b)", "Binary ^(Name a, Name b)": "(a ^ b)", "Binary -(Int 1, Negative(Int 1))": "(1 - (-1))",
		"Call(Name f)": "f()", "Call(Name f, Name a)": "f(a)", "Call(Call(Name f), Tuple(Int 1), Int 2)": "f()((1,), 2)", "Call(Int 5)": "5()",
		"Call(Name f, Keyword k(Int 1))": "f(k=1)", "Call(Name f, Spread(Name a))": "f(**a)",
		"Call(Name f, Name a, Keyword k(Int 1), Keyword l(Name b), Spread(Dict))": "f(a, k=1, l=b, **{})",
		"Attr x(Name a)": "a.x", "Attr x(Int 5)": "(5).x", "Attr x(Int 0)": "(0).x", "Attr y(Attr x(Int 5))": "(5).x.y", "Attr x(Str a)": "'a'.x",
		"Attr x(Tuple(Int 5))": "(5,).x", "Attr x(Negative(Int 5))": "(-5).x", "Attr x(Index(Int 5, Int 6))": "5[6].x", "Attr x(Call(Int 5, Int 6))": "5(6).x",
		"Index(Name a, Int 0)": "a[0]", "Index(Int 5, Int 6)": "5[6]", "Index(Name a, Tuple)": "a[()]", "Index(Name a, Tuple(Int 1, Int 2))": "a[(1, 2)]", "Index(Index(Name a, Name b), Name c)": "a[b][c]",
	} {
		prints(t, "Expr("+notation+")", want+"\n")
	}
}

func TestP14_4OfAnyOtherNode(t *testing.T) {
	for _, n := range append(samples(), one("Module"), one("Module(None)"), one("Block(Pass)"), module("Name a"), module("Expr(Name if)"), moduleOf(api.Node{Kind: api.NodeExpr, Kids: []api.Node{chain(298)}})) {
		if got := tree.Print(n); got != "" {
			t.Errorf("P14.4: Print of %.200s is %q", tell(n), got)
		}
	}
}

// lexes fails unless the lexer takes what is printed, or refuses it as chapter
// 13 says, and takes it as the names, numbers, strs and Blocks of the tree.
func lexes(t *testing.T, n api.Node) {
	t.Helper()
	src := tree.Print(n)
	tokens, fault := lexer.Tokens([]byte(src))
	if want := modelFault(src); fault.Code != want {
		t.Errorf("P14.5: %.200q: fault %v, not %d", src, fault, want)
	}
	if fault.Code != 0 {
		return
	}
	var got []string
	for _, token := range tokens {
		switch token.Kind {
		case api.TokenName, api.TokenInt, api.TokenStr:
			got = append(got, fmt.Sprintf("%d%q", token.Kind, token.Text))
		case api.TokenIndent:
			got = append(got, "{")
		case api.TokenDedent:
			got = append(got, "}")
		}
	}
	if want := leaves(n); !slices.Equal(got, want) {
		t.Errorf("P14.5: %.200q has %v, its tree %v", src, got, want)
	}
}

// modelFault is why the lexer refuses a text that was printed.
func modelFault(src string) int {
	if len(src) > api.MaxSource {
		return api.FaultLong
	}
	for line := range strings.Lines(src) {
		if len(line)-len(strings.TrimLeft(line, " ")) > api.MaxIndent {
			return api.FaultDeep
		}
		open, digits := 0, 0
		for i := 0; i < len(line); i++ {
			switch c := line[i]; {
			case c == '\'':
				for i++; line[i] != '\''; i++ {
					if line[i] == '\\' {
						i++
					}
				}
			case strings.Contains("([{", string(c)):
				open++
			case strings.Contains(")]}", string(c)):
				open--
			case c >= '0' && c <= '9':
				digits++
				if digits > api.MaxDigits {
					return api.FaultNumber
				}
				continue
			}
			digits = 0
			if open > api.MaxNest {
				return api.FaultDeep
			}
		}
	}
	return 0
}

// leaves is the names, numbers and strs of a tree in the order of the text,
// and its inner Blocks.
func leaves(n api.Node) (list []string) {
	kids := n.Kids
	name := fmt.Sprintf("%d%q", api.TokenName, n.Text)
	switch kindNames[n.Kind] {
	case "Module":
		kids = n.Kids[0].Kids
	case "Block":
		defer func() { list = append(append([]string{"{"}, list...), "}") }()
	case "Name", "Def", "Param", "Class", "Keyword":
		list = append(list, name)
	case "Attr":
		defer func() { list = append(list, name) }()
	case "Except":
		list = leaves(kids[0])
		if n.Text != "" {
			list = append(list, name)
		}
		kids = kids[1:]
	case "Int":
		list = append(list, fmt.Sprintf("%d%q", api.TokenInt, digits(n.Num)))
	case "Str":
		list = append(list, fmt.Sprintf("%d%q", api.TokenStr, n.Text))
	}
	for _, kid := range kids {
		list = append(list, leaves(kid)...)
	}
	return list
}

func TestP14_5TheLexer(t *testing.T) {
	for _, row := range rows {
		for _, notation := range row.taken {
			lexes(t, home(row.kind, one(notation)))
		}
	}
	for _, nodes := range []int{1, 59, 60, 61, 62, 200} {
		lexes(t, moduleOf(api.Node{Kind: api.NodeExpr, Kids: []api.Node{chain(nodes)}}))
	}
	for _, deep := range []int{1, 39, 40, 41, 100} {
		n := one("Pass")
		for range deep {
			n = api.Node{Kind: api.NodeWhile, Kids: []api.Node{one("Name a"), {Kind: api.NodeBlock, Kids: []api.Node{n}}}}
		}
		lexes(t, moduleOf(n))
	}
	for _, length := range []int{999, 1000, 1001, 2000} {
		lexes(t, moduleOf(one("Expr(Int 1"+strings.Repeat("0", length-1)+")")))
	}
	for _, length := range []int{api.MaxSource - 3, api.MaxSource - 2, api.MaxSource} {
		lexes(t, moduleOf(one("Expr(Str "+strings.Repeat("a", length)+")")))
	}
}

func TestP14_6Follows(t *testing.T) {
	g := gardener{rand.New(rand.NewSource(146))}
	for range 300 {
		n := g.module()
		count, greatest := 0, 0
		for within := range tree.All(n) {
			count++
			greatest = max(greatest, within)
		}
		if tree.Size(n) < tree.Depth(n) || count != tree.Size(n) || greatest != tree.Depth(n)-1 {
			t.Errorf("P14.6: %s: Size %d, Depth %d, %d told, up to %d", tell(n), tree.Size(n), tree.Depth(n), count, greatest)
		}
	}
}

// spoil changes all that can be reached of a tree, its lists' spare room too.
func spoil(n *api.Node) {
	n.Kind, n.At, n.Text = 99, 99, "spoilt"
	n.Num.Mag = n.Num.Mag[:cap(n.Num.Mag)]
	for i := range n.Num.Mag {
		n.Num.Mag[i] = 99
	}
	n.Kids = n.Kids[:cap(n.Kids)]
	for i := range n.Kids {
		if n.Kids[i].Kind != 99 {
			spoil(&n.Kids[i])
		}
	}
}

// roomy is a tree whose lists have spare room, with something in it.
func roomy(n api.Node) api.Node {
	kids := append([]api.Node{}, n.Kids...)
	for i := range kids {
		kids[i] = roomy(kids[i])
	}
	count := len(kids)
	n.Kids = append(kids, api.Node{Kind: 55, Text: "room", At: 5})[:count]
	words := len(n.Num.Mag)
	n.Num.Mag = append(append([]uint32{}, n.Num.Mag...), 77, 78)[:words]
	return n
}

// rooms is all of a tree, and what stands in its lists' spare room.
func rooms(n api.Node) string {
	s := tell(n) + fmt.Sprint(n.Num.Mag[:cap(n.Num.Mag)])
	for _, kid := range n.Kids[:cap(n.Kids)] {
		s += rooms(kid)
	}
	return s
}

func TestP14_7HandedIn(t *testing.T) {
	g := gardener{rand.New(rand.NewSource(147))}
	for range 200 {
		n := roomy(g.module())
		before := rooms(n)
		tree.Check(n)
		tree.Depth(n)
		tree.Size(n)
		text := tree.Print(n)
		bare := tree.Bare(n)
		wantBare := tell(bare)
		walk := tree.All(n)
		for range walk {
		}
		if rooms(n) != before {
			t.Fatalf("P14.7: %s was turned", before)
		}
		want := modelAll(n, 0)
		spoil(&n)
		if tell(bare) != wantBare {
			t.Fatalf("P14.7: Bare goes with what was handed in: %s", tell(bare))
		}
		if modelPrint(bare) != text {
			t.Fatalf("P14.7: Print %q", text)
		}
		var got []string
		for within, node := range walk {
			got = append(got, fmt.Sprint(within, ": ", tell(node)))
		}
		if !slices.Equal(got, want) {
			t.Fatalf("P14.7: All goes with what was handed in: %v", got)
		}
	}
}

func TestP14_7Answered(t *testing.T) {
	g := gardener{rand.New(rand.NewSource(1470))}
	for range 200 {
		n := roomy(g.module())
		before := rooms(n)
		bare := tree.Bare(n)
		apart(t, bare)
		spoil(&bare)
		if rooms(n) != before {
			t.Fatalf("P14.7: Bare's answer, changed, changes %s", before)
		}
		want := modelAll(n, 0)
		walk := tree.All(n)
		for turn := range 2 {
			var got []string
			var given []api.Node
			for within, node := range walk {
				got = append(got, fmt.Sprint(within, ": ", tell(node)))
				given = append(given, node)
				spoil(&given[len(given)-1])
			}
			if !slices.Equal(got, want) || rooms(n) != before {
				t.Fatalf("P14.7: All's nodes, changed, change what comes in turn %d", turn)
			}
		}
		var given []api.Node
		for _, node := range walk {
			given = append(given, node)
		}
		apart(t, given...)
	}
}

// apart fails if two lists of trees share something.
func apart(t *testing.T, list ...api.Node) {
	t.Helper()
	seen := map[any]bool{}
	look := func(p any) {
		if seen[p] {
			t.Fatal("P14.7: two lists of an answer share memory")
		}
		seen[p] = true
	}
	var visit func(n api.Node)
	visit = func(n api.Node) {
		for i := range n.Num.Mag {
			look(&n.Num.Mag[i])
		}
		for i := range n.Kids {
			look(&n.Kids[i])
			visit(n.Kids[i])
		}
	}
	for _, n := range list {
		visit(n)
	}
}

// twist changes one thing in a tree by chance.
func (g gardener) twist(n api.Node) api.Node {
	n = tree.Bare(n)
	var all []*api.Node
	var visit func(n *api.Node)
	visit = func(n *api.Node) {
		all = append(all, n)
		for i := range n.Kids {
			visit(&n.Kids[i])
		}
	}
	visit(&n)
	at, other := all[g.Intn(len(all))], all[g.Intn(len(all))]
	list := samples()
	switch g.Intn(8) {
	case 0:
		at.Kind = g.Intn(57) - 1
	case 1:
		at.Text = []string{"", "a", "if", "+", "==", "None", "\xff", "1"}[g.Intn(8)]
	case 2:
		at.Num = []api.Int{{}, {Neg: true}, {Mag: []uint32{0}}, {Mag: []uint32{5}}}[g.Intn(4)]
	case 3:
		if k := len(at.Kids); k > 0 {
			at.Kids = slices.Delete(at.Kids, k-1, k)
		}
	case 4:
		at.Kids = slices.Insert(at.Kids, g.Intn(len(at.Kids)+1), list[g.Intn(len(list))])
	case 5:
		*at = list[g.Intn(len(list))]
	case 6:
		if k := len(at.Kids); k > 0 {
			i, j := g.Intn(k), g.Intn(k)
			at.Kids[i], at.Kids[j] = at.Kids[j], at.Kids[i]
		}
	case 7:
		*at = tree.Bare(*other)
	}
	return n
}

func TestGames(t *testing.T) {
	g := gardener{rand.New(rand.NewSource(14))}
	fine, wrong := 0, 0
	for range 300 {
		n := g.module()
		checks(t, "P14.2", tell(n), n, api.OK)
		lexes(t, n)
		agree(t, n)
		for range 4 {
			twisted := g.twist(n)
			agree(t, twisted)
			if modelCheck(twisted) == api.OK {
				lexes(t, twisted)
				fine++
			} else {
				wrong++
			}
		}
		if t.Failed() {
			t.FailNow()
		}
	}
	if fine < 100 || wrong < 100 {
		t.Errorf("%d fine ones and %d wrong ones", fine, wrong)
	}
}

func TestExamplesOfChapter14(t *testing.T) {
	for notation, want := range map[string]string{
		"Module(Block())": "",
		"Module(Block(Assign(Name a, Tuple(Int 1))))":                               "a = (1,)\n",
		"Module(Block(If(Compare in(Name a, Name d), Block(Pass), None)))":          "if (a in d):\n pass\n",
		"Module(Block(Expr(Attr x(Int 5))))":                                        "(5).x\n",
		"Module(Block(Expr(Attr x(Int 5)), Expr(Attr x(Attr y(Negative(Int 5))))))": "(5).x\n(-5).y.x\n",
	} {
		n := one(notation)
		if got := tree.Print(n); got != want || tree.Check(n) != api.OK {
			t.Errorf("P14.4: Print of %s is %q, not %q", notation, got, want)
		}
	}
	for _, notation := range []string{"Block()", "Module(Block(Assign(Int 1, Int 1)))", "Module(Block(Def f(Block())))"} {
		if got := tree.Check(one(notation)); got != api.ErrShape {
			t.Errorf("P14.2: Check of %s is %d", notation, got)
		}
	}
}

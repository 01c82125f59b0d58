package scope_test

import (
	"fmt"
	"reflect"
	"runtime/debug"
	"slices"
	"strings"
	"testing"

	"lexicon/api"
	"lexicon/parser"
	"lexicon/scope"
	"lexicon/tree"
)

func TestMain(m *testing.M) {
	debug.SetGCPercent(400) // the model leaves much behind it
	m.Run()
}

// read is a source's tree.
func read(t testing.TB, src string) api.Node {
	t.Helper()
	n, f := parser.Source([]byte(src))
	if f != (api.Fault{}) {
		t.Fatalf("%q: no tree: %v", src, f)
	}
	return n
}

// answer is what Scopes tells of a tree, held against the model.
func answer(t testing.TB, n api.Node) ([]api.Scope, api.Fault) {
	t.Helper()
	list, f := scope.Scopes(n)
	got := told(list, f)
	if want := told(modelScopes(n)); got != want {
		t.Fatalf("P16.1 to P16.5: %q:\n got %.2000s\nwant %.2000s", tree.Print(n), got, want)
	}
	follows(t, list)
	return list, f
}

// follows is P16.6, of any answer.
func follows(t testing.TB, list []api.Scope) {
	t.Helper()
	for i, s := range list {
		if s.Around >= i || s.Around < 0 && i > 0 {
			t.Fatalf("P16.6: scope %d stands around %d", s.Around, i)
		}
		for _, u := range s.Uses {
			if i == 0 && u.What != api.UseGlobal {
				t.Fatalf("P16.6: the module has %v", u)
			}
			if u.What == api.UseFree && !hands(list[s.Around], u.Name) {
				t.Fatalf("P16.6: %s is free in %d, and nothing in %d", u.Name, i, s.Around)
			}
		}
	}
}

func hands(s api.Scope, name string) bool {
	return slices.ContainsFunc(s.Uses, func(u api.Use) bool {
		return u.Name == name && (u.What == api.UseCell || u.What == api.UseFree)
	})
}

// expect tells of each source what it is to be.
func expect(t *testing.T, promise string, rows [][2]string) {
	t.Helper()
	for _, row := range rows {
		if got := told(answer(t, read(t, row[0]))); got != row[1] {
			t.Errorf("%s: %q:\n got %s\nwant %s", promise, row[0], got, row[1])
		}
	}
}

// inner is expect, of the scopes behind the module's.
func inner(t *testing.T, promise string, rows [][2]string) {
	t.Helper()
	for _, row := range rows {
		list, f := answer(t, read(t, row[0]))
		if f == (api.Fault{}) {
			list = list[1:]
		}
		if got := told(list, f); got != row[1] {
			t.Errorf("%s: %q:\n got %s\nwant %s", promise, row[0], got, row[1])
		}
	}
}

// marked tells of sources with a ^ ahead of the place of their least fault;
// without one they have none.
func marked(t *testing.T, code int, sources ...string) {
	t.Helper()
	for _, src := range sources {
		want := api.Fault{}
		if at := strings.Index(src, "^"); at >= 0 {
			want = api.Fault{Code: code, At: at}
		}
		_, got := answer(t, read(t, strings.Replace(src, "^", "", 1)))
		if got != want {
			t.Errorf("P16.2: %.200q: got %v, want %v", src, got, want)
		}
	}
}

func TestExamplesOfChapter16(t *testing.T) {
	expect(t, "Examples", [][2]string{
		{"a = b", "Module@0<-1 0 0 0: a global, b global"},
		{"def f(x):\n def g():\n  return x\n return g", "Module@0<-1 0 0 0: f global; Def@0<0 2 1 0: g local 1, x cell 0; Def@11<1 0 0 1: x free 0"},
		{"def f():\n class C:\n  x = 1\n  def m(self):\n   return x\n x = 2",
			"Module@0<-1 0 0 0: f global; Def@0<0 1 1 0: C local 0, x cell 0; Class@10<1 0 0 1: m class, x free 0, x class; Def@29<2 1 0 1: self local 0, x free 0"},
		{"[y for x in z if x]", "Module@0<-1 0 0 0: z global; Comp@0<0 2 0 0: x local 1, y global"},
		{"return", "fault 112 0"},
		{"break", "fault 111 0"},
		{"def f(a, a):\n pass", "fault 110 9"},
		{"def f():\n x = 1\n global x", "fault 114 24"},
		{"nonlocal x", "fault 115 9"},
	})
}

func node(kind int, text string, kids ...api.Node) api.Node {
	return api.Node{Kind: kind, At: 7, Text: text, Kids: kids}
}

func name(text string) api.Node { return node(api.NodeName, text) }

func moduleOf(list ...api.Node) api.Node {
	return node(api.NodeModule, "", node(api.NodeBlock, "", list...))
}

// deep is a module of so many nodes within one another.
func deep(parts int) api.Node {
	n := name("a")
	for range parts - 4 {
		n = node(api.NodeNot, "", n)
	}
	return moduleOf(node(api.NodeExpr, "", n))
}

func TestP16_1(t *testing.T) {
	none, pass := node(api.NodeNone, ""), node(api.NodePass, "")
	block := node(api.NodeBlock, "", pass)
	number := node(api.NodeInt, "")
	negative, long := number, number
	negative.Num = api.Int{Neg: true, Mag: []uint32{1}}
	long.Num.Mag = slices.Repeat([]uint32{1}, api.MaxLimbs+1)
	stray := name("a")
	stray.Num.Mag = []uint32{1}
	for what, n := range map[string]api.Node{
		"nothing":                  {At: 5},
		"a kind of none":           {Kind: 99, At: 5},
		"a kind below 0":           {Kind: -1},
		"a Block":                  node(api.NodeBlock, "", pass),
		"a statement":              node(api.NodeReturn, "", none),
		"a Module without a Block": node(api.NodeModule, ""),
		"a Module of two Blocks":   node(api.NodeModule, "", block, block),
		"a Module with a Text":     node(api.NodeModule, "a", block),
		"a Block's expression":     moduleOf(name("a")),
		"a Module in a Module":     moduleOf(moduleOf(pass)),
		"a Block without anything": moduleOf(node(api.NodeDef, "f", node(api.NodeBlock, ""))),
		"a Def without a Block":    moduleOf(node(api.NodeDef, "f")),
		"a Def's Params in no order": moduleOf(node(api.NodeDef, "f", node(api.NodeParam, "a"),
			node(api.NodeParam, "b", none), block)),
		"a Class of one Kid":        moduleOf(node(api.NodeClass, "C", block)),
		"a comprehension of two":    moduleOf(node(api.NodeExpr, "", node(api.NodeListComp, "", name("a"), name("b")))),
		"an If of two":              moduleOf(node(api.NodeIf, "", name("a"), block)),
		"no target":                 moduleOf(node(api.NodeAssign, "", number, number)),
		"Targets of one":            moduleOf(node(api.NodeUnpack, "", node(api.NodeTargets, "", name("a")), number)),
		"a word for a name":         moduleOf(node(api.NodeExpr, "", name("if"))),
		"a Name without a name":     moduleOf(node(api.NodeGlobal, "", name(""))),
		"a Global of none":          moduleOf(node(api.NodeGlobal, "")),
		"a Global of an Int":        moduleOf(node(api.NodeGlobal, "", number)),
		"an Except of any, and one": moduleOf(node(api.NodeTry, "", block, node(api.NodeExcept, "", none, block), node(api.NodeExcept, "", none, block))),
		"a Return without a Kid":    moduleOf(node(api.NodeReturn, "")),
		"a Raise without a Kid":     moduleOf(node(api.NodeRaise, "")),
		"a Keyword ahead":           moduleOf(node(api.NodeExpr, "", node(api.NodeCall, "", name("f"), node(api.NodeKeyword, "k", name("a")), name("a")))),
		"a negative Int":            moduleOf(node(api.NodeExpr, "", negative)),
		"a long Int":                moduleOf(node(api.NodeExpr, "", long)),
		"a Num of a Name":           moduleOf(node(api.NodeExpr, "", stray)),
		"a bad text":                moduleOf(node(api.NodeExpr, "", node(api.NodeStr, "\xff"))),
		"too deep":                  deep(api.MaxTree + 1),
		"much too deep":             deep(1 << 16),
		"a fault ahead of it":       moduleOf(node(api.NodeReturn, "", none), node(api.NodeBreak, ""), name("a")),
	} {
		list, f := scope.Scopes(n)
		if list != nil || f != (api.Fault{Code: api.FaultSyntax}) {
			t.Errorf("P16.1: %s: %v, %v", what, list, f)
		}
	}
	for what, n := range map[string]api.Node{"no statement": moduleOf(), "as deep as may be": deep(api.MaxTree)} {
		if _, f := answer(t, n); f != (api.Fault{}) {
			t.Errorf("P16.1: %s: %v", what, f)
		}
	}
	expect(t, "P16.1", [][2]string{{"", "Module@0<-1 0 0 0"}})
}

// rowOf is so many of a text, a comma between.
func rowOf(text string, count int) string {
	return strings.TrimSuffix(strings.Repeat(text+", ", count), ", ")
}

// unlike is so many names, a comma between.
func unlike(count int) string {
	list := make([]string, count)
	for i := range list {
		list[i] = fmt.Sprint("n", i)
	}
	return strings.Join(list, ", ")
}

func TestP16_2_Names(t *testing.T) {
	const most = api.MaxNames
	for _, form := range []struct {
		before, after string
		text          string
		most          int // of what may stand there
	}{
		{"x = ^f(", ")", "a", most - 1},
		{"x = ^f(", ", **r)", "a", most - 2},
		{"x = ^f(", ", k=1)", "a", most - 2},
		{"x = ^(", ")", "a", most},
		{"x = ^", "", "a", most},
		{"x = ^[", "]", "a", most},
		{"x = ^{", "}", "a", most},
		{"x = ^{", "}", "a: b", most},
		{"x = ^{", ", **r}", "a: b", most - 1},
		{"x = ^{", "}", "**a", most},
		{"for ^", " in b:\n pass", "a", most},
		{"for ^", " in b:\n pass", "a.b", most},
		{"[a for ^", " in b]", "a", most},
		{"{a: 1 for ^", " in b}", "a", most},
		{"def f(x=^[", "]):\n pass", "a", most},
		{"class A(^f(", ")):\n pass", "a", most - 1},
		{"class A:\n def f():\n  return [x for x in ^[", "]]", "a", most},
	} {
		marked(t, api.FaultNames,
			strings.Replace(form.before, "^", "", 1)+rowOf(form.text, form.most)+form.after,
			form.before+rowOf(form.text, form.most+1)+form.after)
	}
	marked(t, api.FaultNames,
		"def f("+unlike(most)+"):\n pass", "^def f("+unlike(most+1)+"):\n pass",
		"def f("+unlike(most-1)+", **r):\n pass", "^def f("+unlike(most)+", **r):\n pass",
		"def f("+strings.ReplaceAll(unlike(most), ",", "=1,")+"=1):\n pass", "x\n^def f("+strings.ReplaceAll(unlike(most+1), ",", "=1,")+"=1):\n pass",
		// neither a Block, nor a Global, nor what a scope has is bounded by it
		"global "+unlike(most+1), strings.ReplaceAll(unlike(most+1), ", ", "\n"), "def f():\n "+strings.ReplaceAll(unlike(most+1), ", ", " = 1\n "),
		"[x for x in y"+strings.Repeat(" if x", most+1)+"]")

	// Targets on the left of a = have the At of what stands there
	n := read(t, "a, b = c")
	target := func(count int) api.Node {
		list := slices.Repeat([]api.Node{name("a")}, count)
		n.Kids[0].Kids[0].Kids[0].Kids = list
		n.Kids[0].Kids[0].Kids[0].At = 3
		return n
	}
	if _, f := answer(t, target(most)); f != (api.Fault{}) {
		t.Errorf("P16.2: Targets of an Unpack: %v", f)
	}
	if _, f := answer(t, target(most+1)); f != (api.Fault{Code: api.FaultNames, At: 3}) {
		t.Errorf("P16.2: Targets of an Unpack: %v", f)
	}
}

func TestP16_2_Twice(t *testing.T) {
	marked(t, api.FaultTwice,
		"def f(a, b):\n pass", "def f(a, ^a):\n pass", "def f(a, b, ^a):\n pass", "def f(b, a, c, ^a):\n pass", "def f(a, ^a, a):\n pass",
		"def f(a, b, ^b):\n pass", "def f(a, ^a=1):\n pass", "def f(a=1, ^a=2):\n pass", "def f(a, **b):\n pass", "def f(a, ^**a):\n pass",
		"def f(a, b=1, ^**b):\n pass", "def f(a, ^a):\n pass\ndef g(b, b):\n pass",
		"def f(f):\n pass", "def f(a):\n def g(a):\n  pass", "def f(a=a):\n pass", "def f(a):\n a = 1", "def f(a, A):\n pass",
		"f(k=1, l=2)", "f(k=1, ^k=2)", "f(k=1, l=2, ^k=3)", "f(k=1, ^k=2, k=3)", "f(a, l=1, k=1, m=1, ^k=2, **r)", "f(k=1, ^k=1)(k=1, k=1)",
		"f(k, k, k=k)", "f(k=1)(k=2)", "f(k=g(k=1))", "f(k=g(k=1, ^k=2), k=3)", "f(k=1, **{'k': 2})", "f(k=f, f=k)", "f(k=1, K=2)",
		"[f(k=1, ^k=2) for a in b]", "def f(a=g(k=1, ^k=2)):\n pass", "class A(f(k=1, ^k=2)):\n pass", "a.f(k=1, ^k=2)[b] = c")
}

func TestP16_2_Loop(t *testing.T) {
	for _, word := range []string{"break", "continue"} {
		for _, src := range []string{
			"^W", "while a:\n W", "for a in b:\n W", "for a, b in c:\n W", "while a:\n if b:\n  W", "while a:\n if b:\n  pass\n else:\n  W",
			"for a in b:\n if c:\n  if d:\n   W", "while a:\n for b in c:\n  W\n W\n^W", "if a:\n ^W", "if a:\n pass\nelse:\n ^W",
			"while a:\n pass\n^W", "for a in b:\n pass\n^W", "while a:\n def f():\n  ^W", "for a in b:\n def f():\n  if a:\n   ^W",
			"while a:\n class A:\n  ^W", "for a in b:\n class A:\n  ^W", "def f():\n ^W", "class A:\n ^W", "def f():\n while a:\n  W",
			"class A:\n for a in b:\n  W", "while a:\n def f():\n  while b:\n   W", "while a:\n def f():\n  while b:\n   W\n  ^W",
			"while a:\n class A:\n  pass\n W", "while a:\n try:\n  W\n except:\n  W", "try:\n ^W\nexcept:\n pass", "try:\n pass\nexcept:\n ^W",
			"try:\n while a:\n  W\nexcept:\n for a in b:\n  W", "def f():\n try:\n  pass\n except:\n  ^W",
		} {
			marked(t, api.FaultLoop, strings.ReplaceAll(src, "W", word))
		}
	}
	marked(t, api.FaultLoop, "^break\ncontinue", "^continue\nbreak")
}

func TestP16_2_Return(t *testing.T) {
	for _, word := range []string{"return", "return a", "return a, b"} {
		for _, src := range []string{
			"^W", "def f():\n W", "class A:\n ^W", "def f():\n class A:\n  ^W", "def f():\n class A:\n  def g():\n   W", "class A:\n def f():\n  W",
			"class A:\n def f():\n  W\n ^W", "def f():\n def g():\n  W\n W", "def f():\n pass\n^W", "if a:\n ^W", "while a:\n ^W", "for a in b:\n ^W",
			"try:\n ^W\nexcept:\n pass", "try:\n pass\nexcept:\n ^W", "def f():\n if a:\n  W\n else:\n  while b:\n   for c in d:\n    W",
			"def f():\n try:\n  W\n except:\n  W", "def f():\n class A:\n  while a:\n   ^W", "def f():\n [a for a in b]\n W",
		} {
			marked(t, api.FaultReturn, strings.ReplaceAll(src, "W", word))
		}
	}
}

func TestP16_2_Raise(t *testing.T) {
	marked(t, api.FaultRaise,
		"^raise", "raise a", "def f():\n ^raise", "def f():\n raise a", "class A:\n ^raise", "class A:\n raise a", "while a:\n ^raise", "if a:\n raise b\nelse:\n ^raise",
		"try:\n ^raise\nexcept:\n pass", "try:\n raise a\nexcept:\n pass", "try:\n pass\nexcept:\n raise", "try:\n pass\nexcept A:\n raise\nexcept B as b:\n raise\nexcept:\n raise",
		"try:\n pass\nexcept:\n pass\n^raise", "try:\n pass\nexcept:\n if a:\n  raise\n else:\n  while b:\n   for c in d:\n    raise",
		"try:\n pass\nexcept:\n def f():\n  ^raise", "try:\n pass\nexcept:\n def f():\n  raise a", "try:\n pass\nexcept:\n class A:\n  ^raise",
		"try:\n pass\nexcept:\n def f():\n  try:\n   ^raise\n  except:\n   raise", "try:\n pass\nexcept:\n def f():\n  try:\n   pass\n  except:\n   raise",
		"try:\n pass\nexcept:\n try:\n  raise\n except:\n  raise", "try:\n try:\n  pass\n except:\n  raise\n ^raise\nexcept:\n raise",
		"def f():\n try:\n  pass\n except:\n  raise", "class A:\n try:\n  pass\n except:\n  raise", "try:\n pass\nexcept:\n def f():\n  pass\n raise",
		"while a:\n try:\n  pass\n except:\n  raise\n ^raise")
}

func TestP16_2_Global(t *testing.T) {
	marked(t, api.FaultGlobal,
		// a Param
		"def f(x):\n global ^x", "def f(y, x=1):\n global ^x", "def f(**x):\n global ^x", "def f(x):\n global y", "def f(x):\n def g():\n  global x", "def f(x=x):\n global y",
		"def f(y):\n def f(x):\n  nonlocal ^x", "def f(x):\n def g(x):\n  nonlocal ^x", "def f(x):\n class A:\n  global x", "def f(x):\n global y, ^x, x",
		// declared twice by one word, and by both
		"global x\nglobal x", "global x, x", "def f():\n global x\n global x", "def f(x):\n def g():\n  nonlocal x\n  nonlocal x, x",
		"def f(x):\n def g():\n  global x\n  nonlocal ^x", "def f(x):\n def g():\n  nonlocal x\n  global ^x", "def f(x):\n def g():\n  nonlocal x\n  global y, ^x\n  nonlocal x",
		"def f(x):\n def g():\n  global x\n  global x\n  nonlocal ^x\n  global x", "def f(x, y):\n def g():\n  nonlocal x\n  global y",
		"def f(x):\n def g():\n  global x\n  def h():\n   nonlocal x", "def f(x):\n def g():\n  nonlocal x\n  def h():\n   global x",
		// ahead of where it occurs, and behind
		"global x\nx = 1", "x\nglobal ^x", "x = 1\nglobal ^x", "def f():\n global x\n x = 1\n del x\n x += 1", "def f():\n x\n global ^x", "def f():\n if a:\n  x = 1\n global ^x",
		"def f():\n for x in y:\n  pass\n global ^x", "def f():\n def x():\n  pass\n global ^x", "def f():\n class x:\n  pass\n global ^x", "def f():\n del x\n global ^x",
		"def f():\n try:\n  pass\n except E as x:\n  global ^x", "def f():\n try:\n  pass\n except x:\n  global ^x", "def f():\n def g(a=x):\n  pass\n global ^x", "def f():\n class C(x):\n  pass\n global ^x",
		"def f():\n [a for a in x]\n global ^x", "def f():\n x.a = 1\n global ^x", "def f():\n a[x] = 1\n global ^x", "def f():\n a, x = 1, 2\n global ^x", "class A:\n x = 1\n global ^x", "class A:\n global x\n x = 1",
		"def f(x):\n def g():\n  x\n  nonlocal ^x", "def f(x, y):\n def g():\n  x = 1\n  nonlocal y, ^x", "def f(x):\n def g():\n  nonlocal x\n  x = 1",
		// what belongs to another scope
		"x\ndef f():\n global x", "def f():\n global x\nx", "def f():\n x\ndef g():\n global x", "def f():\n [x for x in a]\n global x", "def f():\n [a for a in b if x]\n global x",
		"def f():\n def g():\n  x\n global x", "def f():\n def g(x):\n  pass\n global x", "def f():\n class A:\n  x = 1\n global x", "def x():\n global x", "class x:\n global x", "def f(a=x):\n global x",
		// names that are no occurrences
		"def f():\n a.x = 1\n global x", "def f():\n a(x=1)\n global x", "def f():\n 'x'\n global x", "def f():\n try:\n  pass\n except:\n  global x")
}

func TestP16_2_Nonlocal(t *testing.T) {
	marked(t, api.FaultNonlocal,
		"nonlocal ^x", "if a:\n nonlocal ^x", "class A:\n nonlocal ^x", "def f(x):\n class A:\n  nonlocal ^x", "def f(x):\n class A:\n  nonlocal ^x, x",
		"def f():\n nonlocal ^x", "def f(x):\n def g():\n  nonlocal x", "def f():\n x = 1\n def g():\n  nonlocal x", "def f():\n def g():\n  nonlocal x\n x = 1",
		"def f():\n def g():\n  nonlocal ^x\n x", "def f():\n def g():\n  nonlocal ^x\n x.a = 1", "x = 1\ndef f():\n nonlocal ^x", "def f():\n nonlocal ^x\nx = 1", "def f():\n nonlocal ^f",
		"class A:\n x = 1\n def f():\n  nonlocal ^x", "def f():\n class A:\n  x = 1\n  def g():\n   nonlocal ^x", "def f():\n x = 1\n class A:\n  def g():\n   nonlocal x",
		"def f():\n x = 1\n class A:\n  x = 1\n  def g():\n   nonlocal x", "def f(x):\n def g():\n  def h():\n   nonlocal x", "def f(x):\n def g():\n  nonlocal x\n  def h():\n   nonlocal x",
		"def f():\n global x\n x = 1\n def g():\n  nonlocal ^x", "def f(x):\n def g():\n  global x\n  x = 1\n  def h():\n   nonlocal x", "def f():\n def g():\n  nonlocal ^x\n  x = 1",
		"def f():\n def g():\n  x = 1\n def h():\n  nonlocal ^x", "def f():\n [x for x in a]\n def g():\n  nonlocal ^x", "def f(y):\n def g():\n  nonlocal y, ^x, z",
		"def f():\n def x():\n  nonlocal x", "def f():\n class x:\n  pass\n def g():\n  nonlocal x", "def f():\n def g():\n  nonlocal x\n del x",
		"def f():\n def g():\n  nonlocal x\n for x in a:\n  pass", "def f():\n def g():\n  nonlocal x\n for a, x in b:\n  pass", "def f():\n def g():\n  nonlocal x\n x += 1",
		"def f():\n def g():\n  nonlocal x\n try:\n  pass\n except E as x:\n  pass", "def f(**x):\n def g():\n  nonlocal x", "def f():\n def g():\n  nonlocal x\n a, x = b")

	// both at one name: the lesser Code
	marked(t, api.FaultGlobal, "def f(x):\n nonlocal ^x", "def f():\n x\n nonlocal ^x", "x\nnonlocal ^x", "class A:\n x = 1\n nonlocal ^x", "def f():\n global x\n nonlocal ^x")
}

// at is a node of another place.
func at(place int, n api.Node) api.Node {
	n.At = place
	return n
}

// TestP16_2_Least: faults by twos, of unlike and of like At, in both orders.
func TestP16_2_Least(t *testing.T) {
	none := node(api.NodeNone, "")
	many := slices.Repeat([]api.Node{name("a")}, api.MaxNames+1)
	block := node(api.NodeBlock, "", node(api.NodePass, ""))
	faults := map[int]func(place int) api.Node{
		api.FaultNames: func(place int) api.Node { return node(api.NodeExpr, "", at(place, node(api.NodeList, "", many...))) },
		api.FaultTwice: func(place int) api.Node {
			return node(api.NodeDef, "f", node(api.NodeParam, "b", none), at(place, node(api.NodeParam, "b", none)), block)
		},
		api.FaultLoop:     func(place int) api.Node { return at(place, node(api.NodeBreak, "")) },
		api.FaultReturn:   func(place int) api.Node { return at(place, node(api.NodeReturn, "", none)) },
		api.FaultRaise:    func(place int) api.Node { return at(place, node(api.NodeRaise, "", none)) },
		api.FaultNonlocal: func(place int) api.Node { return node(api.NodeNonlocal, "", at(place, name("n"))) },
		api.FaultGlobal: func(place int) api.Node {
			return node(api.NodeDef, "g", node(api.NodeParam, "b", none), node(api.NodeBlock, "", node(api.NodeGlobal, "", at(place, name("b")))))
		},
	}
	for code, make := range faults {
		for other, makeOther := range faults {
			for _, places := range [][2]int{{0, 1}, {1, 0}, {5, 5}, {-3, -2}, {-3, 3}, {3, -3}, {0, 0}, {-1 << 63, 1<<63 - 1}, {1<<63 - 1, -1 << 63}, {1<<63 - 1, 1<<63 - 1}} {
				want := api.Fault{Code: code, At: places[0]}
				if places[1] < places[0] || places[1] == places[0] && other < code {
					want = api.Fault{Code: other, At: places[1]}
				}
				list, f := scope.Scopes(moduleOf(make(places[0]), makeOther(places[1])))
				if f != want || list != nil {
					t.Errorf("P16.2: %d at %d, %d at %d: got %v", code, places[0], other, places[1], f)
				}
			}
		}
	}
	// of three of one name the later two are told, whichever has the lesser At
	for _, places := range [][3]int{{1, 2, 3}, {1, 3, 2}, {3, 2, 1}, {2, 1, 3}, {3, 1, 2}, {1, 1, 1}} {
		param := func(i int) api.Node { return at(places[i], node(api.NodeParam, "b", none)) }
		keyword := func(i int) api.Node { return at(places[i], node(api.NodeKeyword, "b", name("a"))) }
		want := api.Fault{Code: api.FaultTwice, At: min(places[1], places[2])}
		if _, f := answer(t, moduleOf(node(api.NodeDef, "f", param(0), param(1), param(2), block))); f != want {
			t.Errorf("P16.2: Params at %v: %v", places, f)
		}
		if _, f := answer(t, moduleOf(node(api.NodeExpr, "", node(api.NodeCall, "", name("f"), keyword(0), keyword(1), keyword(2))))); f != want {
			t.Errorf("P16.2: Keywords at %v: %v", places, f)
		}
	}
}

// TestP16_2_Places: a declared name and one that occurs are held against each
// other by At, wherever they stand; the two words by the order of the tree.
func TestP16_2_Places(t *testing.T) {
	def := func(list ...api.Node) api.Node { return node(api.NodeDef, "f", node(api.NodeBlock, "", list...)) }
	global := func(place int) api.Node { return node(api.NodeGlobal, "", at(place, name("x"))) }
	nonlocal := func(place int) api.Node { return node(api.NodeNonlocal, "", at(place, name("x"))) }
	occurs := func(place int) api.Node { return node(api.NodeExpr, "", at(place, name("x"))) }
	none := api.Fault{}
	for _, row := range []struct {
		list []api.Node
		want api.Fault
	}{
		{[]api.Node{global(5), occurs(4)}, api.Fault{Code: api.FaultGlobal, At: 5}},
		{[]api.Node{global(5), occurs(5)}, none},
		{[]api.Node{global(5), occurs(6)}, none},
		{[]api.Node{occurs(6), global(5)}, none},
		{[]api.Node{occurs(5), global(5)}, none},
		{[]api.Node{occurs(4), global(5)}, api.Fault{Code: api.FaultGlobal, At: 5}},
		{[]api.Node{occurs(6), occurs(4), global(5)}, api.Fault{Code: api.FaultGlobal, At: 5}},
		{[]api.Node{occurs(4), occurs(6), global(5)}, api.Fault{Code: api.FaultGlobal, At: 5}},
		{[]api.Node{global(-1), occurs(0)}, none},
		{[]api.Node{global(0), occurs(-1)}, api.Fault{Code: api.FaultGlobal}},
		{[]api.Node{global(5), global(7), occurs(6)}, api.Fault{Code: api.FaultGlobal, At: 7}},
		{[]api.Node{global(7), global(5), occurs(4)}, api.Fault{Code: api.FaultGlobal, At: 5}},
		{[]api.Node{global(5), nonlocal(3)}, api.Fault{Code: api.FaultGlobal, At: 3}},
		{[]api.Node{nonlocal(3), global(5)}, api.Fault{Code: api.FaultGlobal, At: 5}},
		{[]api.Node{nonlocal(5), global(3)}, api.Fault{Code: api.FaultGlobal, At: 3}},
		{[]api.Node{nonlocal(5), global(5)}, api.Fault{Code: api.FaultGlobal, At: 5}},
		{[]api.Node{nonlocal(5), occurs(4)}, api.Fault{Code: api.FaultGlobal, At: 5}},
		{[]api.Node{nonlocal(5), occurs(5)}, none},
		{[]api.Node{nonlocal(5), at(4, node(api.NodeClass, "x", node(api.NodeNone, ""), node(api.NodeBlock, "", node(api.NodePass, ""))))}, api.Fault{Code: api.FaultGlobal, At: 5}},
		{[]api.Node{nonlocal(5), at(5, node(api.NodeDef, "x", node(api.NodeBlock, "", node(api.NodePass, ""))))}, none},
		{[]api.Node{nonlocal(5), at(4, node(api.NodeDef, "x", node(api.NodeBlock, "", node(api.NodePass, ""))))}, api.Fault{Code: api.FaultGlobal, At: 5}},
	} {
		home := node(api.NodeDef, "h", at(9, node(api.NodeParam, "x")), node(api.NodeBlock, "", def(row.list...)))
		if _, f := answer(t, moduleOf(home)); f != row.want {
			t.Errorf("P16.2: %v: got %v, want %v", row.list, f, row.want)
		}
	}
}

func TestP16_3_Bound(t *testing.T) {
	// each way in which a name is bound, in each kind of scope that has it
	for _, form := range []string{
		"x = a", "x, b = a", "b, x = a", "x += a", "del x", "for x in a:\n  pass", "for b, x in a:\n  pass",
		"def x():\n  pass", "class x:\n  pass", "try:\n  pass\n except E as x:\n  pass",
	} {
		for head, want := range map[string]string{"def f():\n ": "local", "class C:\n ": "class", "if q:\n ": "global"} {
			list, f := answer(t, read(t, head+form))
			if f != (api.Fault{}) {
				t.Fatalf("P16.3: %q: %v", head+form, f)
			}
			if got := whatIn(list[len(list)-1-within(form)], "x"); got != want {
				t.Errorf("P16.3: %q: x is %s, want %s", head+form, got, want)
			}
			if head != "if q:\n " {
				sure(t, head+"global x\n "+form, "x", 1, "global")
			}
		}
		sure(t, "def f():\n "+form+"\n def g():\n  return x", "x", 1, "cell")
		sure(t, "def f(x):\n def g():\n  nonlocal x\n  "+strings.ReplaceAll(form, "\n ", "\n  "), "x", 2, "free")
	}
	// and those in which it occurs alone
	for _, form := range []string{
		"x", "x.a = 1", "x[a] = 1", "a[x] = 1", "a[0].b[x] = 1", "x.a += 1", "del x.a", "del a[x]", "for x.a in b:\n  pass", "for a[x] in b:\n  pass", "for a in x:\n  pass",
		"a, b.c[x] = d", "a = x", "a += x", "return x", "raise x", "if x:\n  pass", "while x:\n  pass", "f(x)", "f(k=x)", "f(**x)", "x(a)", "(x,)", "[x]", "{x}", "{x: a}", "{a: x}", "{**x}",
		"x if a else b", "a if x else b", "a if b else x", "a or x", "x and a", "not x", "-x", "x < a", "a in x", "x + a", "a - x", "x.a", "x[a]", "a[x]",
		"def f(a=x):\n  pass", "class A(x):\n  pass", "try:\n  pass\n except x as e:\n  pass", "[a for a in x]",
	} {
		sure(t, "def f():\n "+form, "x", 1, "global")
		sure(t, "def f(x):\n "+form, "x", 1, "local")
		sure(t, "def f(x):\n def g():\n  "+strings.ReplaceAll(form, "\n ", "\n  "), "x", 2, "free")
		if !strings.HasPrefix(form, "return") {
			sure(t, "class C:\n "+form, "x", 1, "global")
			sure(t, "def f(x):\n class C:\n  "+strings.ReplaceAll(form, "\n ", "\n  "), "x", 2, "free")
		}
	}
	// what is no name of a scope at all
	for _, form := range []string{"a.x", "a.x = 1", "f(x=1)", "'x'", "pass", "[x for x in a]", "[a for a in b if x]", "def f(x):\n  pass", "def f():\n  x", "class A:\n  x"} {
		list, _ := answer(t, read(t, "def f():\n "+form))
		if got := whatIn(list[1], "x"); got != "" {
			t.Errorf("P16.3: %q: x is %s", form, got)
		}
	}
}

// within is how many scopes a statement has.
func within(form string) int {
	return strings.Count(form, "def ") + strings.Count(form, "class ")
}

// whatIn is what a name is in a scope, in words.
func whatIn(s api.Scope, name string) string {
	var words []string
	for _, u := range s.Uses {
		if u.Name == name {
			words = append(words, whatNames[u.What])
		}
	}
	return strings.Join(words, " ")
}

func sure(t *testing.T, src, name string, number int, want string) {
	t.Helper()
	list, f := answer(t, read(t, src))
	if f != (api.Fault{}) {
		t.Fatalf("P16.3: %q: %v", src, f)
	}
	if got := whatIn(list[number], name); got != want {
		t.Errorf("P16.3: %q: %s is %q in scope %d, want %q", src, name, got, number, want)
	}
}

func TestP16_3_Comprehensions(t *testing.T) {
	for _, form := range [][2]string{{"[", "]"}, {"{", "}"}, {"{k: ", "}"}} {
		in := func(text string) string { return form[0] + text + form[1] }
		sure(t, in("x for x in a"), "x", 1, "local")
		sure(t, in("x for x in x"), "x", 0, "global")
		sure(t, in("x for a, x in b"), "x", 1, "local")
		sure(t, in("x for a in b"), "x", 1, "global")
		sure(t, in("a for a in b if c if x"), "x", 1, "global")
		sure(t, in("a for a.x in b"), "x", 1, "")
		sure(t, in("a for x.a in b"), "x", 1, "global")
		sure(t, in("a for a in x"), "x", 1, "")
		sure(t, "def f(x):\n return "+in("x for a in b"), "x", 2, "free")
		sure(t, "def f(x):\n return "+in("a for a in b if x"), "x", 2, "free")
		sure(t, "def f(x):\n return "+in("a for a in x"), "x", 1, "local")
		sure(t, "def f(x):\n return "+in("x for x in x"), "x", 1, "local")
		sure(t, in("[x for a in b] for x in c"), "x", 1, "cell")
		sure(t, in("[a for a in x] for x in c"), "x", 1, "local")
	}
	sure(t, "{x: 1 for a in b}", "x", 1, "global")
}

func TestP16_3_Belongs(t *testing.T) {
	expect(t, "P16.3", [][2]string{
		{"def f(a=b, c=[d for d in e], **g):\n h", "Module@0<-1 0 0 0: b global, e global, f global; Def@0<0 3 0 0: a local 0, c local 1, g local 2, h global; Comp@13<0 2 0 0: d local 1"},
		{"class A(B.c(D)):\n E = F", "Module@0<-1 0 0 0: A global, B global, D global; Class@0<0 0 0 0: E class, F global"},
		{"def f():\n def g(a=b):\n  return a\n b = 1", "Module@0<-1 0 0 0: f global; Def@0<0 2 0 0: b local 0, g local 1; Def@10<1 1 0 0: a local 0"},
		{"def f():\n class A(B):\n  pass\n B = 1", "Module@0<-1 0 0 0: f global; Def@0<0 2 0 0: A local 0, B local 1; Class@10<1 0 0 0"},
		{"class A:\n x = 1\n def x(x=x):\n  return x\n class x(x):\n  x = x", "Module@0<-1 0 0 0: A global; Class@0<0 0 0 0: x class; Def@17<1 1 0 0: x local 0; Class@41<1 0 0 0: x class"},
		{"class A:\n x = 1\n y = [x for a in x]", "Module@0<-1 0 0 0: A global; Class@0<0 0 0 0: x class, y class; Comp@21<1 2 0 0: a local 1, x global"},
		{"[[a for b in c] for d in [e for f in g]]", "Module@0<-1 0 0 0: g global; Comp@0<0 2 0 0: c global, d local 1; Comp@1<1 2 0 0: a global, b local 1; Comp@25<0 2 0 0: e global, f local 1"},
		{"def f(x=[y for y in [z for z in z]]):\n pass", "Module@0<-1 0 0 0: f global, z global; Def@0<0 1 0 0: x local 0; Comp@8<0 2 0 0: y local 1; Comp@20<0 2 0 0: z local 1"},
		{"class A([x for x in y]):\n [x for x in y]", "Module@0<-1 0 0 0: A global, y global; Class@0<0 0 0 0: y global; Comp@8<0 2 0 0: x local 1; Comp@26<1 2 0 0: x local 1"},
	})
}

func TestP16_3_Homes(t *testing.T) {
	inner(t, "P16.3", [][2]string{
		// one scope outwards, and several
		{"def f(x):\n def g():\n  x", "Def@0<0 2 1 0: g local 1, x cell 0; Def@11<1 0 0 1: x free 0"},
		{"def f(x):\n def g():\n  def h():\n   def i():\n    x",
			"Def@0<0 2 1 0: g local 1, x cell 0; Def@11<1 1 0 1: h local 0, x free 0; Def@22<2 1 0 1: i local 0, x free 0; Def@34<3 0 0 1: x free 0"},
		// the nearest one
		{"def f(x):\n def g(x):\n  def h():\n   x", "Def@0<0 2 0 0: g local 1, x local 0; Def@11<1 2 1 0: h local 1, x cell 0; Def@23<2 0 0 1: x free 0"},
		// through a Class, whose own names nobody within sees
		{"def f(x):\n class A:\n  def g():\n   x", "Def@0<0 2 1 0: A local 1, x cell 0; Class@11<1 0 0 1: g class, x free 0; Def@22<2 0 0 1: x free 0"},
		{"def f(x):\n class A:\n  x = 1\n  def g():\n   x", "Def@0<0 2 1 0: A local 1, x cell 0; Class@11<1 0 0 1: g class, x free 0, x class; Def@30<2 0 0 1: x free 0"},
		{"def f():\n class A:\n  x = 1\n  def g():\n   x", "Def@0<0 1 0 0: A local 0; Class@10<1 0 0 0: g class, x class; Def@29<2 0 0 0: x global"},
		{"class A:\n x = 1\n def g():\n  x", "Class@0<0 0 0 0: g class, x class; Def@17<1 0 0 0: x global"},
		{"def f(x):\n class A:\n  class B:\n   x", "Def@0<0 2 1 0: A local 1, x cell 0; Class@11<1 0 0 1: B class, x free 0; Class@22<2 0 0 1: x free 0"},
		{"def f(x):\n class A:\n  x = 1\n  class B:\n   x = 2\n   [x for a in b]",
			"Def@0<0 2 1 0: A local 1, x cell 0; Class@11<1 0 0 1: B class, x free 0, x class; Class@30<2 0 0 1: b global, x free 0, x class; Comp@51<3 2 0 1: a local 1, x free 0"},
		// a Class that declares it global, and hands it on all the same
		{"def f(x):\n class A:\n  global x\n  x = 1\n  def g():\n   x", "Def@0<0 2 1 0: A local 1, x cell 0; Class@11<1 0 0 1: g class, x free 0, x global; Def@41<2 0 0 1: x free 0"},
		{"def f(x):\n class A:\n  x\n  def g():\n   x", "Def@0<0 2 1 0: A local 1, x cell 0; Class@11<1 0 0 1: g class, x free 0; Def@26<2 0 0 1: x free 0"},
		// through and in comprehensions
		{"def f(x):\n [[x for a in b] for c in d]", "Def@0<0 1 1 0: d global, x cell 0; Comp@11<1 2 0 1: b global, c local 1, x free 0; Comp@12<2 2 0 1: a local 1, x free 0"},
		{"[[[x for a in b] for c in d] for x in e]", "Comp@0<0 1 1 0: d global, x cell 0; Comp@1<1 2 0 1: b global, c local 1, x free 0; Comp@2<2 2 0 1: a local 1, x free 0"},
		{"def f(x):\n [[x for a in b] for x in d]", "Def@0<0 1 0 0: d global, x local 0; Comp@11<1 1 1 0: b global, x cell 0; Comp@12<2 2 0 1: a local 1, x free 0"},
		{"def f(x):\n class A:\n  y = [x for a in b]", "Def@0<0 2 1 0: A local 1, x cell 0; Class@11<1 0 0 1: b global, x free 0, y class; Comp@26<2 2 0 1: a local 1, x free 0"},
		// a Def that declares it is no home
		{"def f():\n global x\n x = 1\n def g():\n  x", "Def@0<0 1 0 0: g local 0, x global; Def@27<1 0 0 0: x global"},
		{"def f(x):\n def g():\n  global x\n  x = 1\n  def h():\n   x", "Def@0<0 2 1 0: g local 1, x cell 0; Def@11<1 1 0 1: h local 0, x free 0, x global; Def@41<2 0 0 1: x free 0"},
		{"def f(x):\n def g():\n  nonlocal x\n  x = 1\n  def h():\n   x", "Def@0<0 2 1 0: g local 1, x cell 0; Def@11<1 1 0 1: h local 0, x free 0; Def@43<2 0 0 1: x free 0"},
		{"def f(x):\n def g():\n  nonlocal x\n  def h():\n   nonlocal x\n   x = 1", "Def@0<0 2 1 0: g local 1, x cell 0; Def@11<1 1 0 1: h local 0, x free 0; Def@35<2 0 0 1: x free 0"},
		// two that have one home, and two of one name with unlike homes
		{"def f(x):\n def g():\n  x\n def h():\n  x", "Def@0<0 3 1 0: g local 1, h local 2, x cell 0; Def@11<1 0 0 1: x free 0; Def@25<1 0 0 1: x free 0"},
		{"def f():\n x = 1\n def g():\n  x\ndef h():\n x = 1\n def g():\n  y",
			"Def@0<0 1 1 0: g local 0, x cell 0; Def@17<1 0 0 1: x free 0; Def@30<0 2 0 0: g local 0, x local 1; Def@47<3 0 0 0: y global"},
		// a name that the home binds behind, that of the function itself
		{"def f():\n def g():\n  x\n x = 1", "Def@0<0 1 1 0: g local 0, x cell 0; Def@10<1 0 0 1: x free 0"},
		{"def f():\n def g():\n  g", "Def@0<0 0 1 0: g cell 0; Def@10<1 0 0 1: g free 0"},
		{"def f():\n f", "Def@0<0 0 0 0: f global"},
		// global in one is nothing to another
		{"def f(x):\n def g():\n  global x\n def h():\n  x", "Def@0<0 3 1 0: g local 1, h local 2, x cell 0; Def@11<1 0 0 0: x global; Def@32<1 0 0 1: x free 0"},
		{"def f():\n global x, y\n y", "Def@0<0 0 0 0: x global, y global"},
		{"def f(x):\n def g():\n  nonlocal x", "Def@0<0 2 1 0: g local 1, x cell 0; Def@11<1 0 0 1: x free 0"},
		{"class A:\n global x\n x = 1", "Class@0<0 0 0 0: x global"},
	})
	expect(t, "P16.3", [][2]string{
		{"global x, y\ny = z", "Module@0<-1 0 0 0: x global, y global, z global"},
		{"x = 1\ndef f():\n x\n [x for a in b]", "Module@0<-1 0 0 0: f global, x global; Def@6<0 0 0 0: b global, x global; Comp@19<1 2 0 0: a local 1, x global"},
	})
}

func TestP16_4(t *testing.T) {
	inner(t, "P16.4", [][2]string{
		// Params that are cells keep their places
		{"def f(c, b, a):\n def g():\n  c\n  a", "Def@0<0 4 2 0: a cell 0, b local 1, c cell 1, g local 3; Def@17<1 0 0 2: a free 0, c free 1"},
		{"def f(a):\n def g():\n  a", "Def@0<0 2 1 0: a cell 0, g local 1; Def@11<1 0 0 1: a free 0"},
		{"def f(b, a=1, **c):\n z = 1\n d = 2", "Def@0<0 5 0 0: a local 1, b local 0, c local 2, d local 3, z local 4"},
		{"def f(z, **a):\n def g():\n  a\n m = 1", "Def@0<0 4 1 0: a cell 0, g local 2, m local 3, z local 0; Def@16<1 0 0 1: a free 0"},
		// locals, cells and frees together: cells ahead of frees
		{"def f(a, z):\n def g(m, b):\n  c = 1\n  y = 2\n  def h():\n   a\n   z\n   b\n   y\n  x = w",
			"Def@0<0 3 2 0: a cell 0, g local 2, z cell 1; Def@14<1 5 2 2: a free 2, b cell 0, c local 2, h local 3, m local 0, w global, x local 4, y cell 1, z free 3; Def@45<2 0 0 4: a free 0, b free 1, y free 2, z free 3"},
		// names rise byte by byte
		{"def f():\n b = 1\n B = 1\n _ = 1\n b2 = 1\n b10 = 1\n bb = 1\n a = 1", "Def@0<0 7 0 0: B local 0, _ local 1, a local 2, b local 3, b10 local 4, b2 local 5, bb local 6"},
		// of one name by What
		{"def f(x):\n class A:\n  x = 1\n  y = 1\n  def g():\n   x", "Def@0<0 2 1 0: A local 1, x cell 0; Class@11<1 0 0 1: g class, x free 0, x class, y class; Def@38<2 0 0 1: x free 0"},
		// a comprehension's first place is its own
		{"[a for a in b]", "Comp@0<0 2 0 0: a local 1"},
		{"[a for c, a in b]", "Comp@0<0 3 0 0: a local 1, c local 2"},
		{"[a for b.c in d]", "Comp@0<0 1 0 0: a global, b global"},
		{"[[a for x in y] for b, a in c]", "Comp@0<0 2 1 0: a cell 0, b local 1, y global; Comp@1<1 2 0 1: a free 0, x local 1"},
		{"def f(x, a):\n [[a for y in x] for b, c in x if c]", "Def@0<0 2 2 0: a cell 0, x cell 1; Comp@14<1 3 0 2: a free 0, b local 1, c local 2, x free 1; Comp@15<2 2 0 1: a free 0, y local 1"},
		// Trys
		{"def f(a):\n try:\n  b = 1\n except:\n  try:\n   pass\n  except E as c:\n   pass", "Def@0<0 5 0 0: E global, a local 0, b local 1, c local 2"},
		{"def f():\n try:\n  pass\n except A:\n  pass\n except B:\n  pass", "Def@0<0 1 0 0: A global, B global"},
		{"class A:\n try:\n  pass\n except:\n  pass\n while a:\n  try:\n   pass\n  except:\n   pass", "Class@0<0 2 0 0: a global"},
		{"def f(a):\n try:\n  def g():\n   try:\n    a\n   except:\n    pass\n except:\n  class B:\n   try:\n    pass\n   except:\n    pass",
			"Def@0<0 4 1 0: B local 1, a cell 0, g local 2; Def@18<1 1 0 1: a free 0; Class@72<1 1 0 0"},
	})
	expect(t, "P16.4", [][2]string{
		{"try:\n a\nexcept:\n try:\n  b\n except:\n  c", "Module@0<-1 2 0 0: a global, b global, c global"},
		{"try:\n [a for a in b]\nexcept:\n pass", "Module@0<-1 1 0 0: b global; Comp@6<0 2 0 0: a local 1"},
		{"a\nb = a\na", "Module@0<-1 0 0 0: a global, b global"},
	})
}

func TestP16_5(t *testing.T) {
	expect(t, "P16.5", [][2]string{
		{"def f():\n pass\nclass A:\n pass\n[a for a in b]\n{a for a in b}\n{a: a for a in b}",
			"Module@0<-1 0 0 0: A global, b global, f global; Def@0<0 0 0 0; Class@15<0 0 0 0; Comp@30<0 2 0 0: a local 1; Comp@45<0 2 0 0: a local 1; Comp@60<0 2 0 0: a local 1"},
		{"class A:\n class B:\n  def f():\n   class C:\n    pass\n def g():\n  pass",
			"Module@0<-1 0 0 0: A global; Class@0<0 0 0 0: B class, g class; Class@10<1 0 0 0: f class; Def@21<2 1 0 0: C local 0; Class@33<3 0 0 0; Def@52<1 0 0 0"},
		{"def f(a=[b for b in c]):\n [[d for d in [e for e in a]] for g in [h for h in i]]",
			"Module@0<-1 0 0 0: c global, f global; Def@0<0 1 1 0: a cell 0, i global; Comp@8<0 2 0 0: b local 1; Comp@26<1 2 0 1: a free 0, g local 1; Comp@27<3 2 0 0: d local 1; Comp@39<3 2 0 0: e local 1; Comp@64<1 2 0 0: h local 1"},
		{"def f(a=[b for b in c], d=[e for e in g]):\n pass", "Module@0<-1 0 0 0: c global, f global, g global; Def@0<0 2 0 0: a local 0, d local 1; Comp@8<0 2 0 0: b local 1; Comp@26<0 2 0 0: e local 1"},
	})
	// any At is told as it is
	block := node(api.NodeBlock, "", node(api.NodePass, ""))
	comp := node(api.NodeSetComp, "", name("a"), name("a"), name("b"))
	n := at(-9, moduleOf(at(1<<63-1, node(api.NodeDef, "f", block)), at(-1<<63, node(api.NodeClass, "C", node(api.NodeNone, ""), block)), node(api.NodeExpr, "", at(-1, comp))))
	list, f := answer(t, n)
	if f != (api.Fault{}) || len(list) != 4 || list[0].At != -9 || list[1].At != 1<<63-1 || list[2].At != -1<<63 || list[3].At != -1 {
		t.Errorf("P16.5: %v, %v", list, f)
	}
}

// TestP16_6: a name goes through as many scopes as there may be, and each of
// them hands it on.
func TestP16_6(t *testing.T) {
	block := func(list ...api.Node) api.Node { return node(api.NodeBlock, "", list...) }
	use := node(api.NodeExpr, "", name("x"))
	n := use
	for i := range 140 {
		if i%2 == 0 {
			n = node(api.NodeClass, "C", node(api.NodeNone, ""), block(n))
		} else {
			n = node(api.NodeDef, "g", block(n))
		}
	}
	home := moduleOf(node(api.NodeDef, "f", node(api.NodeParam, "x"), block(n)))
	list, f := answer(t, home)
	if f != (api.Fault{}) || len(list) != 142 {
		t.Fatalf("P16.6: %d scopes, %v", len(list), f)
	}
	for _, s := range list[2:] {
		if whatIn(s, "x") != "free" || s.Frees != 1 {
			t.Errorf("P16.6: x is %s in %v", whatIn(s, "x"), s)
		}
	}
	list, _ = answer(t, moduleOf(n))
	for _, s := range list {
		if s.Frees != 0 || s.Cells != 0 {
			t.Errorf("P16.6: without a home: %v", s)
		}
	}
	// comprehensions need no Block, and go deeper
	e := name("x")
	for range 280 {
		e = node(api.NodeListComp, "", e, name("a"), name("b"))
	}
	list, f = answer(t, moduleOf(node(api.NodeExpr, "", node(api.NodeListComp, "", e, name("x"), name("b")))))
	if f != (api.Fault{}) || len(list) != 282 || list[1].Cells != 1 || list[281].Frees != 1 {
		t.Errorf("P16.6: comprehensions: %d scopes, %v", len(list), f)
	}
}

// rich has every kind of scope and of use.
const rich = "def f(x, y=[a for a in b]):\n class A(B):\n  x = 1\n  def g(self):\n   nonlocal y\n   y = x\n   return [x for k in y]\n try:\n  pass\n except E as e:\n  raise\n global z\n z = 1\n"

// copied is a tree in new memory.
func copied(n api.Node) api.Node {
	n.Num.Mag = slices.Clone(n.Num.Mag)
	n.Kids = slices.Clone(n.Kids)
	for i := range n.Kids {
		n.Kids[i] = copied(n.Kids[i])
	}
	return n
}

// roomy is a tree whose lists have spare room, with something in it.
func roomy(n api.Node) api.Node {
	kids := make([]api.Node, 0, len(n.Kids)+2)
	for _, kid := range n.Kids {
		kids = append(kids, roomy(kid))
	}
	copy(kids[len(kids):cap(kids)], []api.Node{{Kind: 77, Text: "spare"}, {Kind: 78, Text: "room"}})
	n.Kids = kids
	return n
}

// spare is what stands in a tree's spare room.
func spare(n api.Node) (list []api.Node) {
	list = append(list, n.Kids[len(n.Kids):cap(n.Kids)]...)
	for _, kid := range n.Kids {
		list = append(list, spare(kid)...)
	}
	return list
}

// spoil turns all of a tree.
func spoil(n *api.Node) {
	for i := range n.Kids {
		spoil(&n.Kids[i])
	}
	*n = api.Node{Kind: 99, At: -1, Text: "spoilt", Kids: n.Kids}
}

func TestP16_7(t *testing.T) {
	for _, src := range []string{rich, "", "a = b", "return", "def f(x):\n def g():\n  nonlocal x\n  global x", "f(k=1, k=2)"} {
		n := roomy(read(t, src))
		before, room := copied(n), spare(n)
		list, f := scope.Scopes(n)
		first := told(list, f)
		if !reflect.DeepEqual(copied(n), before) || !reflect.DeepEqual(spare(n), room) {
			t.Errorf("P16.7: %q was changed", src)
		}
		spoil(&n)
		if got := told(list, f); got != first {
			t.Errorf("P16.7: %q was kept: %s, then %s", src, first, got)
		}
		again, f2 := scope.Scopes(before)
		if got := told(again, f2); got != first {
			t.Errorf("P16.7: %q: %s, then %s", src, first, got)
		}
		for i := range list {
			list[i].Uses = append(list[i].Uses, api.Use{Name: "more", What: 9})
			for k := range list[i].Uses {
				list[i].Uses[k] = api.Use{Name: "spoilt", What: 5, Slot: 99}
			}
			_ = append(list[i].Uses[:cap(list[i].Uses)], api.Use{})
			list[i].Kind, list[i].Around = 4, 77
		}
		if got := told(again, f2); got != first {
			t.Errorf("P16.7: %q: what was answered is kept: %s, then %s", src, first, got)
		}
		last, f3 := scope.Scopes(before)
		if got := told(last, f3); got != first {
			t.Errorf("P16.7: %q: %s, then %s", src, first, got)
		}
	}
}

// TestP16_7_Lists: no two lists of one answer share room.
func TestP16_7_Lists(t *testing.T) {
	list, _ := scope.Scopes(read(t, rich))
	want := told(list, api.Fault{})
	for i := range list {
		full := list[i].Uses[:cap(list[i].Uses)]
		kept := slices.Clone(full)
		for k := range full {
			full[k] = api.Use{Name: "spoilt", What: 5, Slot: 99}
		}
		rest := slices.Clone(list)
		rest[i].Uses = kept[:len(rest[i].Uses)]
		if got := told(rest, api.Fault{}); got != want {
			t.Errorf("P16.7: the Uses of %d are others', too: %s", i, got)
		}
		copy(full, kept)
	}
}

// TestSame: what is answered hangs on nothing but the tree.
func TestSame(t *testing.T) {
	src := "def f(" + unlike(40) + "):\n def g():\n  " + strings.ReplaceAll(unlike(60), ", ", "\n  ") + "\n  x = 1\n  def h():\n   x\n   global y\n   " + strings.ReplaceAll(unlike(20), ", ", "\n   ")
	want := told(answer(t, read(t, src)))
	for range 20 {
		if got := told(scope.Scopes(read(t, src))); got != want {
			t.Fatalf("P16.4: got %s, then %s", want, got)
		}
	}
}

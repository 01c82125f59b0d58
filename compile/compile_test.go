package compile_test

import (
	"fmt"
	"runtime/debug"
	"slices"
	"strings"
	"testing"

	"lexicon/api"
	"lexicon/code"
	"lexicon/compile"
	"lexicon/parser"
	"lexicon/tree"
	"lexicon/whole"
)

func TestMain(m *testing.M) {
	debug.SetGCPercent(400) // the model leaves much behind it
	m.Run()
}

// read is a source's tree.
func read(t testing.TB, src string) api.Node {
	t.Helper()
	n, f := parser.Source([]byte(src))
	if f != (api.Fault{}) {
		t.Fatalf("%q: no tree: %v", src, f)
	}
	return n
}

// raw is all of an answer, the numbers as they are; lists without anything are
// alike.
func raw(p api.Program, f api.Fault) string { return fmt.Sprintf("%+v %+v", p, f) }

// answer is what Compile tells of a tree, held against the model; what is told
// is P18.6's, too.
func answer(t testing.TB, n api.Node) (api.Program, api.Fault) {
	t.Helper()
	p, f := compile.Compile(n)
	if got, want := raw(p, f), raw(modelCompile(n)); got != want {
		t.Fatalf("P18.1 to P18.5: %q:\n got %.3000s\nwant %.3000s", tree.Print(n), got, want)
	}
	verified(t, p, f)
	return p, f
}

// verified is P18.6, and DOC.md's rule 2 of what is refused.
func verified(t testing.TB, p api.Program, f api.Fault) {
	t.Helper()
	if f != (api.Fault{}) {
		if len(p.Funcs)+len(p.Consts)+len(p.Names) > 0 {
			t.Fatalf("P18.1: a program beside %v", f)
		}
		return
	}
	if number, e := code.Verify(p); e != api.OK {
		t.Fatalf("P18.6: Verify refuses function %d", number)
	}
}

// told is a program as chapter 17 prints it, without the numbers of the
// instructions, a line a function.
func told(p api.Program, f api.Fault) string {
	if f != (api.Fault{}) {
		return fmt.Sprint("fault ", f.Code, " ", f.At)
	}
	var out []string
	for _, line := range strings.Split(strings.TrimSuffix(code.Print(p), "\n"), "\n") {
		if !strings.HasPrefix(line, " ") {
			out = append(out, line+":")
			continue
		}
		_, words, _ := strings.Cut(line[1:], " ")
		out[len(out)-1] += " " + words + ","
	}
	for i, line := range out {
		out[i] = strings.TrimSuffix(line, ",")
	}
	return strings.Join(out, "\n")
}

const ending = ", const None, return"

// lines tells of each source all functions of its program. A module's is told
// by its code alone, without its end.
func lines(t *testing.T, promise string, table [][]string) {
	t.Helper()
	for _, r := range table {
		want := slices.Clone(r[1:])
		if !strings.HasPrefix(want[0], "fault") {
			want[0] = "module 0 0 0 0: " + strings.TrimPrefix(want[0]+ending, ", ")
		}
		if got := told(answer(t, read(t, r[0]))); got != strings.Join(want, "\n") {
			t.Errorf("%s: %q:\n got %s\nwant %s", promise, r[0], got, strings.Join(want, "\n"))
		}
	}
}

// modules tells of each source the code of its module alone.
func modules(t *testing.T, promise string, table [][2]string) {
	t.Helper()
	for _, r := range table {
		got, _, _ := strings.Cut(told(answer(t, read(t, r[0]))), "\n")
		if want := "module 0 0 0 0: " + strings.TrimPrefix(r[1]+ending, ", "); got != want {
			t.Errorf("%s: %q:\n got %s\nwant %s", promise, r[0], got, want)
		}
	}
}

// function is a function of a source's program.
func function(t *testing.T, src string, number int) api.Func {
	t.Helper()
	p, f := answer(t, read(t, src))
	if f != (api.Fault{}) || len(p.Funcs) <= number {
		t.Fatalf("%q: %d functions, %v", src, len(p.Funcs), f)
	}
	return p.Funcs[number]
}

func TestExamplesOfChapter18(t *testing.T) {
	lines(t, "Examples", [][]string{
		{"", ""},
		{"a = b", "loadglobal b, setglobal a"},
		{"def f(x, y=1):\n return x", "const 1, func 1 1, setglobal f", "def f 2 1 0 0: loadlocal 0, return, const None, return"},
		{"while a:\n break", "loadglobal a, ifnot 4, jump 4, jump 0"},
		{"[x for x in a]", "func 1 0, loadglobal a, iter, call 1 0, pop",
			"comp 1 0 0 0: list 0, loadlocal 0, next 7, storelocal 1, loadlocal 1, append 2, jump 2, return"},
		{"d[k] += 1", "loadglobal d, loadglobal k, dup2, loadindex, const 1, binary 1, turn, setindex"},
	})
}

// TestP18_1: what Scopes refuses, by each of its rules.
func TestP18_1(t *testing.T) {
	many := "f(" + strings.Repeat("a,", api.MaxNames) + ")"
	for _, r := range []struct {
		src  string
		want api.Fault
	}{
		{"a\n" + many, api.Fault{Code: api.FaultNames, At: 2}},
		{"f(a=1, a=2)", api.Fault{Code: api.FaultTwice, At: 7}},
		{"def f(a, a):\n pass", api.Fault{Code: api.FaultTwice, At: 9}},
		{"if a:\n break", api.Fault{Code: api.FaultLoop, At: 7}},
		{"while a:\n def f():\n  continue", api.Fault{Code: api.FaultLoop, At: 21}},
		{"\nreturn", api.Fault{Code: api.FaultReturn, At: 1}},
		{"class A:\n return", api.Fault{Code: api.FaultReturn, At: 10}},
		{"try:\n raise\nexcept:\n pass", api.Fault{Code: api.FaultRaise, At: 6}},
		{"def f():\n x = 1\n global x", api.Fault{Code: api.FaultGlobal, At: 24}},
		{"nonlocal x", api.Fault{Code: api.FaultNonlocal, At: 9}},
		{"break\nreturn\n" + many, api.Fault{Code: api.FaultLoop, At: 0}},
	} {
		if p, f := answer(t, read(t, r.src)); f != r.want {
			t.Errorf("P18.1: %.60q: %v, %d functions", r.src, f, len(p.Funcs))
		}
	}
	for _, n := range []api.Node{{}, {Kind: api.NodeBlock}, {Kind: api.NodeModule}, {Kind: -1}, module(node(api.NodeReturn, "")), module(node(api.NodeName, "a")), deepModule(api.MaxTree + 1)} {
		if _, f := answer(t, n); f != (api.Fault{Code: api.FaultSyntax}) {
			t.Errorf("P18.1: %v: %v", n, f)
		}
	}
	if _, f := answer(t, deepModule(api.MaxTree)); f != (api.Fault{}) {
		t.Errorf("P18.1: as deep as may be: %v", f)
	}
	two := module(at(9, node(api.NodeBreak, "")), at(-4, node(api.NodeContinue, "")))
	if _, f := answer(t, two); f != (api.Fault{Code: api.FaultLoop, At: -4}) {
		t.Errorf("P18.1: %v", f)
	}
}

func node(kind int, text string, kids ...api.Node) api.Node {
	return api.Node{Kind: kind, At: 7, Text: text, Kids: kids}
}

func at(place int, n api.Node) api.Node {
	n.At = place
	return n
}

func block(list ...api.Node) api.Node { return node(api.NodeBlock, "", list...) }

func module(list ...api.Node) api.Node { return node(api.NodeModule, "", block(list...)) }

func expr(n api.Node) api.Node { return node(api.NodeExpr, "", n) }

func named(text string) api.Node { return node(api.NodeName, text) }

// deepModule is one of so many nodes within one another.
func deepModule(parts int) api.Node {
	n := named("a")
	for range parts - 4 {
		n = node(api.NodeNot, "", n)
	}
	return module(expr(n))
}

// TestP18_2: of a function its Kind, Name, Names, Params, Defaults, Rest, Cells
// and Frees.
func TestP18_2(t *testing.T) {
	const trys = "try:\n def f(a):\n  try:\n   b = 1\n  except E as e:\n   try:\n    pass\n   except:\n    pass\n  class A:\n   try:\n    pass\n   except:\n    pass\nexcept:\n try:\n  pass\n except:\n  pass"
	for _, r := range []struct {
		src    string
		number int
		want   string
	}{
		{"a = 1", 0, "1 '' [] 0 0 false 0 0"},
		{"def f():\n pass", 1, "2 'f' [] 0 0 false 0 0"},
		{"def f(b, a):\n pass", 1, "2 'f' [b a] 2 0 false 0 0"},
		{"def f(b, a=1, c=2):\n pass", 1, "2 'f' [b a c] 3 2 false 0 0"},
		{"def f(**r):\n pass", 1, "2 'f' [r] 0 0 true 0 0"},
		{"def f(b, a=1, **r):\n pass", 1, "2 'f' [b a r] 2 1 true 0 0"},
		{"def f(b=None, **r):\n y = b\n a, b[y], x.z = 1", 1, "2 'f' [b r a y] 1 1 true 0 0"},
		{"def f(b, a=1, **c):\n def g():\n  return b, c", 1, "2 'f' [b a c g] 2 1 true 2 0"},
		{"def f(b, a=1, **c):\n def g():\n  return b, c", 2, "2 'g' [] 0 0 false 0 2"},
		{"def f(x):\n def g(y):\n  def h():\n   return x, y", 2, "2 'g' [y h] 1 0 false 1 1"},
		{"def f(a):\n global b\n b = a\n c = b", 1, "2 'f' [a c] 1 0 false 0 0"},
		{"class A:\n x = 1\n def f(self):\n  pass", 1, "3 'A' [] 0 0 false 0 0"},
		{"class A(B):\n x = 1\n def f(self):\n  pass", 2, "2 'f' [self] 1 0 false 0 0"},
		{"def f(x):\n class A:\n  y = x", 2, "3 'A' [] 0 0 false 0 1"},
		{"[b for b in a]", 1, "4 '' [.0 b] 1 0 false 0 0"},
		{"{b: a for c, b, a[b].x in d}", 1, "4 '' [.0 b c] 1 0 false 0 0"},
		{"{[a for c in d] for a in b}", 1, "4 '' [.0] 1 0 false 1 0"},
		{"{[a for c in d] for a in b}", 2, "4 '' [.0 c] 1 0 false 0 1"},
		{trys, 0, "1 '' [.e0 .e1] 0 0 false 0 0"},
		{trys, 1, "2 'f' [a A b e .e0 .e1] 1 0 false 0 0"},
		{trys, 2, "3 'A' [.e0] 0 0 false 0 0"},
	} {
		f := function(t, r.src, r.number)
		got := fmt.Sprintf("%d '%s' %v %d %d %v %d %d", f.Kind, f.Name, f.Names, f.Params, f.Defaults, f.Rest, f.Cells, f.Frees)
		if got != r.want {
			t.Errorf("P18.2: %q, function %d: got %s, want %s", r.src, r.number, got, r.want)
		}
	}
}

// TestP18_2Order: functions stand in the order of the tree, whatever the order
// in which what makes them is laid.
func TestP18_2Order(t *testing.T) {
	lines(t, "P18.2", [][]string{
		{"def f(a=[1 for x in y]):\n def g():\n  pass\ndef h():\n pass",
			"func 2 0, loadglobal y, iter, call 1 0, func 1 1, setglobal f, func 4 0, setglobal h",
			"def f 1 1 0 0: func 3 0, storelocal 1, const None, return",
			"comp 1 0 0 0: list 0, loadlocal 0, next 7, storelocal 1, const 1, append 2, jump 2, return",
			"def g 0 0 0 0: const None, return",
			"def h 0 0 0 0: const None, return"},
		{"class A({1 for x in y}):\n class B:\n  pass",
			"func 2 0, loadglobal y, iter, call 1 0, func 1 0, class A 1, setglobal A",
			"class A 0 0 0 0: func 3 0, class B 0, setname B, const None, return",
			"comp 1 0 0 0: set, loadlocal 0, next 7, storelocal 1, const 1, additem 2, jump 2, return",
			"class B 0 0 0 0: const None, return"},
		{"[1 for x in y][0] = {2 for x in y}",
			"func 2 0, loadglobal y, iter, call 1 0, func 1 0, loadglobal y, iter, call 1 0, const 0, setindex",
			"comp 1 0 0 0: list 0, loadlocal 0, next 7, storelocal 1, const 1, append 2, jump 2, return",
			"comp 1 0 0 0: set, loadlocal 0, next 7, storelocal 1, const 2, additem 2, jump 2, return"},
		{"[[1 for a in b] for c[{2 for d in e}] in [3 for f in g] if [4 for h in i]]",
			"func 1 0, func 4 0, loadglobal g, iter, call 1 0, iter, call 1 0, pop",
			"comp 1 0 0 0: list 0, loadlocal 0, next 20, loadglobal c, func 3 0, loadglobal e, iter, call 1 0, setindex, " +
				"func 5 0, loadglobal i, iter, call 1 0, ifnot 2, func 2 0, loadglobal b, iter, call 1 0, append 2, jump 2, return",
			"comp 1 0 0 0: list 0, loadlocal 0, next 7, storelocal 1, const 1, append 2, jump 2, return",
			"comp 1 0 0 0: set, loadlocal 0, next 7, storelocal 1, const 2, additem 2, jump 2, return",
			"comp 1 0 0 0: list 0, loadlocal 0, next 7, storelocal 1, const 3, append 2, jump 2, return",
			"comp 1 0 0 0: list 0, loadlocal 0, next 7, storelocal 1, const 4, append 2, jump 2, return"},
	})
}

// TestNames: each thing that a name can be in a scope, laid, given, taken out.
func TestNames(t *testing.T) {
	use := "x\nx = 1\ndel x\nx += 2"
	in := func(blanks string) string { return blanks + strings.ReplaceAll(use, "\n", "\n"+blanks) }
	code := func(load, store, del string) string {
		return load + ", pop, const 1, " + store + ", " + del + ", " + load + ", const 2, binary 1, " + store
	}
	globals := code("loadglobal x", "setglobal x", "delglobal x")
	lines(t, "Words", [][]string{
		{use, globals},
		{"def f():\n" + in(" "), "func 1 0, setglobal f", "def f 0 0 0 0: " + code("loadlocal 0", "storelocal 0", "dellocal 0") + ending},
		{"def f(a, x):\n" + in(" "), "func 1 0, setglobal f", "def f 2 0 0 0: " + code("loadlocal 1", "storelocal 1", "dellocal 1") + ending},
		{"def f():\n" + in(" ") + "\n def g():\n  x", "func 1 0, setglobal f",
			"def f 0 0 1 0: " + code("loadcell 0", "storecell 0", "delcell 0") + ", pushcell 0, func 2 0, storelocal 0" + ending,
			"def g 0 0 0 1: loadcell 0, pop" + ending},
		{"def f(a, x):\n def g():\n  nonlocal x\n" + in("  ") + "\n  a", "func 1 0, setglobal f",
			"def f 2 0 2 0: loadlocal 0, storecell 0, loadlocal 1, storecell 1, pushcell 0, pushcell 1, func 2 0, storelocal 2" + ending,
			"def g 0 0 0 2: " + code("loadcell 1", "storecell 1", "delcell 1") + ", loadcell 0, pop" + ending},
		{"def f():\n global x\n" + in(" "), "func 1 0, setglobal f", "def f 0 0 0 0: " + globals + ending},
		{"class A:\n" + in(" "), "func 1 0, class A 0, setglobal A", "class A 0 0 0 0: " + code("loadname x", "setname x", "delname x") + ending},
		{"class A:\n global x\n" + in(" "), "func 1 0, class A 0, setglobal A", "class A 0 0 0 0: " + globals + ending},
		{"class A:\n y = x", "func 1 0, class A 0, setglobal A", "class A 0 0 0 0: loadglobal x, setname y" + ending},
		{"def f(x):\n class A:\n  y = x", "func 1 0, setglobal f",
			"def f 1 0 1 0: loadlocal 0, storecell 0, pushcell 0, func 2 0, class A 0, storelocal 1" + ending,
			"class A 0 0 0 1: loadcell 0, setname y" + ending},
	})
	lines(t, "Words", [][]string{ // names that have two uses
		{"def f(x):\n class A:\n" + in("  ") + "\n  def g(self):\n   x", "func 1 0, setglobal f",
			"def f 1 0 1 0: loadlocal 0, storecell 0, pushcell 0, func 2 0, class A 0, storelocal 1" + ending,
			"class A 0 0 0 1: " + code("loadname x", "setname x", "delname x") + ", pushcell 0, func 3 0, setname g" + ending,
			"def g 1 0 0 1: loadcell 0, pop" + ending},
		{"def f(x):\n class A:\n  global x\n" + in("  ") + "\n  [x for y in x]", "func 1 0, setglobal f",
			"def f 1 0 1 0: loadlocal 0, storecell 0, pushcell 0, func 2 0, class A 0, storelocal 1" + ending,
			"class A 0 0 0 1: " + globals + ", pushcell 0, func 3 0, loadglobal x, iter, call 1 0, pop" + ending,
			"comp 1 0 0 1: list 0, loadlocal 0, next 7, storelocal 1, loadcell 0, append 2, jump 2, return"},
		{"def f(x):\n def g():\n  global x\n" + in("  ") + "\n  def h():\n   x", "func 1 0, setglobal f",
			"def f 1 0 1 0: loadlocal 0, storecell 0, pushcell 0, func 2 0, storelocal 1" + ending,
			"def g 0 0 0 1: " + globals + ", pushcell 0, func 3 0, storelocal 0" + ending,
			"def h 0 0 0 1: loadcell 0, pop" + ending},
	})
}

// TestNamesOfComprehensions: a comprehension has targets alone to give to.
func TestNamesOfComprehensions(t *testing.T) {
	lines(t, "Words", [][]string{
		{"[y for x in a]", "func 1 0, loadglobal a, iter, call 1 0, pop",
			"comp 1 0 0 0: list 0, loadlocal 0, next 7, storelocal 1, loadglobal y, append 2, jump 2, return"},
		{"def f(y, z):\n return [y for x in z]", "func 1 0, setglobal f",
			"def f 2 0 1 0: loadlocal 0, storecell 0, pushcell 0, func 2 0, loadlocal 1, iter, call 1 0, return, const None, return",
			"comp 1 0 0 1: list 0, loadlocal 0, next 7, storelocal 1, loadcell 0, append 2, jump 2, return"},
		{"[[x for y in x] for x in a]", "func 1 0, loadglobal a, iter, call 1 0, pop",
			"comp 1 0 1 0: list 0, loadlocal 0, next 11, storecell 0, pushcell 0, func 2 0, loadcell 0, iter, call 1 0, append 2, jump 2, return",
			"comp 1 0 0 1: list 0, loadlocal 0, next 7, storelocal 1, loadcell 0, append 2, jump 2, return"},
		{"class A:\n b = 1\n c = [b for x in b]", "func 1 0, class A 0, setglobal A",
			"class A 0 0 0 0: const 1, setname b, func 2 0, loadname b, iter, call 1 0, setname c" + ending,
			"comp 1 0 0 0: list 0, loadlocal 0, next 7, storelocal 1, loadglobal b, append 2, jump 2, return"},
	})
}

// lists is a program's constants and names as words.
func lists(p api.Program) string {
	var out []string
	for _, c := range p.Consts {
		switch c.Kind {
		case api.ValNone:
			out = append(out, "None")
		case api.ValBool:
			out = append(out, fmt.Sprint(c.Bool))
		case api.ValInt:
			out = append(out, whole.Text(c.Num))
		case api.ValStr:
			out = append(out, "'"+c.Text+"'")
		}
	}
	return strings.Join(out, " ") + " / " + strings.Join(p.Names, " ")
}

// TestLists: which constants and names there are, and in which order.
func TestLists(t *testing.T) {
	for _, r := range [][2]string{
		{"", "None / "},
		{"a", "None / a"},
		{"a = 2\nb = 2\na = b", "2 None / a b"},
		{"b\na\nb.a\na.c", "None / b a c"},
		{"None\n1", "None 1 / "},
		{"1, True, '1', 'True', 'None', None, False, 0, '', '0', 'False', 1, True, '1'", "1 true '1' 'True' 'None' None false 0 '' '0' 'False' / "},
		{"18446744073709551616\n1\n4294967296\n4294967297\n18446744073709551616\n16777216\n256\n65536", "18446744073709551616 1 4294967296 4294967297 16777216 256 65536 None / "},
		{"'aa', 'a', 'A', 'aa'", "'aa' 'a' 'A' None / "},
		{"f(1, k=2, a=k)", "1 'k' 2 'a' None / f k"},
		{"f(f=1)\n'f'", "'f' 1 None / f"},
		{"a.b = c", "None / c a b"},
		{"a.b += c\nd[e] -= g", "None / a b c d e g"},
		{"class A(B):\n C = 1", "None 1 / B A C"},
		{"def f():\n return 2, x\na = 1, True, '1', 1, a\nb = 2", "1 true '1' 2 None / f a b x"},
		{"def f(a=7):\n a = 8\n b = 7\n return c\ndef g():\n return 9, 8, c, d", "7 None 8 9 / f g c d"},
		{"def f():\n def g():\n  x\n y\nz", "None / f z y x"},
		{"[7 for x[8] in 9 if 10]", "9 None 8 10 7 / x"},
		{"a if b else c", "None / b a c"},
		{"def f():\n global a\n a = 1\na\nclass A:\n a", "None 1 / f a A"},
		{"try:\n a\nexcept B as c:\n d\nexcept E:\n f", "None / a B c d E f"},
	} {
		p, _ := answer(t, read(t, r[0]))
		if got := lists(p); got != r[1] {
			t.Errorf("Words: %q: got %s, want %s", r[0], got, r[1])
		}
	}
}

package compile_test

import (
	"strings"
	"testing"

	"lexicon/api"
)

// TestP18_3Defs: what a Def's Params that are cells are, ahead of its Block.
func TestP18_3Defs(t *testing.T) {
	lines(t, "P18.3", [][]string{
		{"def f():\n pass", "func 1 0, setglobal f", "def f 0 0 0 0: const None, return"},
		{"def f(b, a=1, **r):\n return b, a, r", "const 1, func 1 1, setglobal f",
			"def f 2 1 rest 0 0: loadlocal 0, loadlocal 1, loadlocal 2, tuple 3, return, const None, return"},
		{"def f(c, b, a):\n def g():\n  return a, c", "func 1 0, setglobal f",
			"def f 3 0 2 0: loadlocal 0, storecell 1, loadlocal 2, storecell 0, pushcell 0, pushcell 1, func 2 0, storelocal 3, const None, return",
			"def g 0 0 0 2: loadcell 0, loadcell 1, tuple 2, return, const None, return"},
		{"def f(b, a=1, **c):\n def g():\n  return a, c", "const 1, func 1 1, setglobal f",
			"def f 2 1 rest 2 0: loadlocal 1, storecell 0, loadlocal 2, storecell 1, pushcell 0, pushcell 1, func 2 0, storelocal 3, const None, return",
			"def g 0 0 0 2: loadcell 0, loadcell 1, tuple 2, return, const None, return"},
		{"def f(**r):\n return [r for a in b]", "func 1 0, setglobal f",
			"def f 0 0 rest 1 0: loadlocal 0, storecell 0, pushcell 0, func 2 0, loadglobal b, iter, call 1 0, return, const None, return",
			"comp 1 0 0 1: list 0, loadlocal 0, next 7, storelocal 1, loadcell 0, append 2, jump 2, return"},
		{"def f(x, y, **z):\n def g(a=y):\n  nonlocal x\n  x = z\n return g", "func 1 0, setglobal f",
			"def f 2 0 rest 2 0: loadlocal 0, storecell 0, loadlocal 2, storecell 1, loadlocal 1, pushcell 0, pushcell 1, func 2 1, storelocal 3, loadlocal 3, return, const None, return",
			"def g 1 1 0 2: loadcell 1, storecell 0, const None, return"},
	})
}

func TestP18_3Comprehensions(t *testing.T) {
	const made = "func 1 0, loadglobal d, iter, call 1 0, pop"
	lines(t, "P18.3", [][]string{
		{"[a for b in d]", made, "comp 1 0 0 0: list 0, loadlocal 0, next 7, storelocal 1, loadglobal a, append 2, jump 2, return"},
		{"{a for b in d}", made, "comp 1 0 0 0: set, loadlocal 0, next 7, storelocal 1, loadglobal a, additem 2, jump 2, return"},
		{"{a: b for b in d}", made, "comp 1 0 0 0: dict, loadlocal 0, next 8, storelocal 1, loadglobal a, loadlocal 1, addpair 2, jump 2, return"},
		{"[a for b in d if c]", made, "comp 1 0 0 0: list 0, loadlocal 0, next 9, storelocal 1, loadglobal c, ifnot 2, loadglobal a, append 2, jump 2, return"},
		{"{a for b in d if c if b if not e}", made,
			"comp 1 0 0 0: set, loadlocal 0, next 14, storelocal 1, loadglobal c, ifnot 2, loadlocal 1, ifnot 2, loadglobal e, not, ifnot 2, loadglobal a, additem 2, jump 2, return"},
		{"{a: b for a, b in d if a}", made,
			"comp 1 0 0 0: dict, loadlocal 0, next 12, unpack 2, storelocal 1, storelocal 2, loadlocal 1, ifnot 2, loadlocal 1, loadlocal 2, addpair 2, jump 2, return"},
		{"[1 for a.b in d]", made, "comp 1 0 0 0: list 0, loadlocal 0, next 8, loadglobal a, setattr b, const 1, append 2, jump 2, return"},
		{"[1 for a[b] in d]", made, "comp 1 0 0 0: list 0, loadlocal 0, next 9, loadglobal a, loadglobal b, setindex, const 1, append 2, jump 2, return"},
		{"[1 for c, a[c].b, e[c][1] in d]", made,
			"comp 1 0 0 0: list 0, loadlocal 0, next 17, unpack 3, storelocal 1, loadglobal a, loadlocal 1, loadindex, setattr b, loadglobal e, loadlocal 1, loadindex, const 1, setindex, const 1, append 2, jump 2, return"},
		{"{a: [b for b in c if a] for a in d}", made,
			"comp 1 0 1 0: dict, loadlocal 0, next 12, storecell 0, loadcell 0, pushcell 0, func 2 0, loadglobal c, iter, call 1 0, addpair 2, jump 2, return",
			"comp 1 0 0 1: list 0, loadlocal 0, next 9, storelocal 1, loadcell 0, ifnot 2, loadlocal 1, append 2, jump 2, return"},
		{"[a for a in {b for b in d}]", "func 1 0, func 2 0, loadglobal d, iter, call 1 0, iter, call 1 0, pop",
			"comp 1 0 0 0: list 0, loadlocal 0, next 7, storelocal 1, loadlocal 1, append 2, jump 2, return",
			"comp 1 0 0 0: set, loadlocal 0, next 7, storelocal 1, loadlocal 1, additem 2, jump 2, return"},
	})
}

func TestP18_4Plain(t *testing.T) {
	modules(t, "P18.4", [][2]string{
		{"a\nb", "loadglobal a, pop, loadglobal b, pop"},
		{"pass", ""},
		{"pass\na\npass", "loadglobal a, pop"},
		{"if a:\n pass", "loadglobal a, ifnot 2"},
		{"global a\na = 1", "const 1, setglobal a"},
		{"a = b", "loadglobal b, setglobal a"},
		{"a.b = c", "loadglobal c, loadglobal a, setattr b"},
		{"a[b] = c", "loadglobal c, loadglobal a, loadglobal b, setindex"},
		{"a.b.c = d", "loadglobal d, loadglobal a, loadattr b, setattr c"},
		{"a.b[c] = d", "loadglobal d, loadglobal a, loadattr b, loadglobal c, setindex"},
		{"a[b].c = d", "loadglobal d, loadglobal a, loadglobal b, loadindex, setattr c"},
		{"a[b][c[d]] = e", "loadglobal e, loadglobal a, loadglobal b, loadindex, loadglobal c, loadglobal d, loadindex, setindex"},
		{"f(a).b = c", "loadglobal c, loadglobal f, loadglobal a, call 1 0, setattr b"},
		{"a[b, c] = d", "loadglobal d, loadglobal a, loadglobal b, loadglobal c, tuple 2, setindex"},
		{"a, b = c", "loadglobal c, unpack 2, setglobal a, setglobal b"},
		{"a, b = b, a", "loadglobal b, loadglobal a, tuple 2, unpack 2, setglobal a, setglobal b"},
		{"a.b, c[d], e = g", "loadglobal g, unpack 3, loadglobal a, setattr b, loadglobal c, loadglobal d, setindex, setglobal e"},
		{"del a", "delglobal a"},
		{"del a.b", "loadglobal a, delattr b"},
		{"del a[b]", "loadglobal a, loadglobal b, delindex"},
		{"del a.b.c", "loadglobal a, loadattr b, delattr c"},
		{"del a[b][c]", "loadglobal a, loadglobal b, loadindex, loadglobal c, delindex"},
		{"del a[b].c", "loadglobal a, loadglobal b, loadindex, delattr c"},
	})
}

func TestP18_4Augment(t *testing.T) {
	for i, sign := range strings.Fields("+ - * // % & | ^") {
		number := string(rune('1' + i))
		modules(t, "P18.4", [][2]string{
			{"a " + sign + "= b", "loadglobal a, loadglobal b, binary " + number + ", setglobal a"},
			{"a.b " + sign + "= c", "loadglobal a, dup, loadattr b, loadglobal c, binary " + number + ", swap, setattr b"},
			{"a[b] " + sign + "= c", "loadglobal a, loadglobal b, dup2, loadindex, loadglobal c, binary " + number + ", turn, setindex"},
		})
	}
	modules(t, "P18.4", [][2]string{
		{"a.b[c.d].e += g", "loadglobal a, loadattr b, loadglobal c, loadattr d, loadindex, dup, loadattr e, loadglobal g, binary 1, swap, setattr e"},
		{"a[b][c] -= 1, 2", "loadglobal a, loadglobal b, loadindex, loadglobal c, dup2, loadindex, const 1, const 2, tuple 2, binary 2, turn, setindex"},
	})
}

func TestP18_4If(t *testing.T) {
	modules(t, "P18.4", [][2]string{
		{"if a:\n b", "loadglobal a, ifnot 4, loadglobal b, pop"},
		{"if a:\n b\nelse:\n c", "loadglobal a, ifnot 5, loadglobal b, pop, jump 7, loadglobal c, pop"},
		{"if a:\n b\nelif c:\n d", "loadglobal a, ifnot 5, loadglobal b, pop, jump 9, loadglobal c, ifnot 9, loadglobal d, pop"},
		{"if a:\n b\nelif c:\n d\nelse:\n e", "loadglobal a, ifnot 5, loadglobal b, pop, jump 12, loadglobal c, ifnot 10, loadglobal d, pop, jump 12, loadglobal e, pop"},
		{"if a:\n if b:\n  c\n else:\n  d\ne", "loadglobal a, ifnot 9, loadglobal b, ifnot 7, loadglobal c, pop, jump 9, loadglobal d, pop, loadglobal e, pop"},
	})
}

func TestP18_4Loops(t *testing.T) {
	modules(t, "P18.4", [][2]string{
		{"while a:\n b", "loadglobal a, ifnot 5, loadglobal b, pop, jump 0"},
		{"b\nwhile not a:\n pass\nc", "loadglobal b, pop, loadglobal a, not, ifnot 6, jump 2, loadglobal c, pop"},
		{"for a in b:\n c", "loadglobal b, iter, next 7, setglobal a, loadglobal c, pop, jump 2"},
		{"for a, b.c, d[e] in g:\n pass", "loadglobal g, iter, next 11, unpack 3, setglobal a, loadglobal b, setattr c, loadglobal d, loadglobal e, setindex, jump 2"},
		{"for a.b in c, d:\n pass", "loadglobal c, loadglobal d, tuple 2, iter, next 8, loadglobal a, setattr b, jump 4"},
		{"while a:\n break\nb", "loadglobal a, ifnot 4, jump 4, jump 0, loadglobal b, pop"},
		{"while a:\n continue\nb", "loadglobal a, ifnot 4, jump 0, jump 0, loadglobal b, pop"},
		{"for a in b:\n break", "loadglobal b, iter, next 7, setglobal a, pop, jump 7, jump 2"},
		{"for a in b:\n continue", "loadglobal b, iter, next 6, setglobal a, jump 2, jump 2"},
		{"for a in b:\n if c:\n  break\n else:\n  continue", "loadglobal b, iter, next 11, setglobal a, loadglobal c, ifnot 9, pop, jump 11, jump 10, jump 2, jump 2"},
		{"while a:\n for b in c:\n  break\n break\n continue",
			"loadglobal a, ifnot 12, loadglobal c, iter, next 9, setglobal b, pop, jump 9, jump 4, jump 12, jump 0, jump 0"},
		{"for a in b:\n while c:\n  break\n  continue\n continue\n break",
			"loadglobal b, iter, next 13, setglobal a, loadglobal c, ifnot 9, jump 9, jump 4, jump 4, jump 2, pop, jump 13, jump 2"},
	})
}

// TestP18_4Leaving: what Break and Continue close behind them: the first Blocks
// of Trys in which they stand, as far as these stand within the loop.
func TestP18_4Leaving(t *testing.T) {
	modules(t, "P18.4", [][2]string{
		{"while a:\n try:\n  break\n except:\n  continue",
			"loadglobal a, ifnot 11, try 7, endtry, jump 11, endtry, jump 10, storelocal 0, jump 0, jump 10, jump 0"},
		{"while a:\n try:\n  continue\n except:\n  break",
			"loadglobal a, ifnot 11, try 7, endtry, jump 0, endtry, jump 10, storelocal 0, jump 11, jump 10, jump 0"},
		{"for a in b:\n try:\n  break\n except:\n  break",
			"loadglobal b, iter, next 15, setglobal a, try 10, endtry, pop, jump 15, endtry, jump 14, storelocal 0, pop, jump 15, jump 14, jump 2"},
		{"for a in b:\n try:\n  continue\n except:\n  continue",
			"loadglobal b, iter, next 13, setglobal a, try 9, endtry, jump 2, endtry, jump 12, storelocal 0, jump 2, jump 12, jump 2"},
		{"for a in b:\n try:\n  try:\n   continue\n  except:\n   break\n except:\n  try:\n   break\n  except:\n   continue",
			"loadglobal b, iter, next 30, setglobal a, " +
				"try 18, try 11, endtry, endtry, jump 2, endtry, jump 16, storelocal 1, endtry, pop, jump 30, jump 16, " +
				"endtry, jump 29, storelocal 0, try 25, endtry, pop, jump 30, endtry, jump 28, storelocal 2, jump 2, jump 28, jump 29, jump 2"},
		{"try:\n while a:\n  break\nexcept:\n pass", // the Try stands around the loop
			"try 7, loadglobal a, ifnot 5, jump 5, jump 1, endtry, jump 9, storelocal 0, jump 9"},
		{"try:\n for a in b:\n  try:\n   break\n  except:\n   continue\nexcept:\n pass",
			"try 17, loadglobal b, iter, next 15, setglobal a, try 11, endtry, pop, jump 15, endtry, jump 14, storelocal 1, jump 3, jump 14, jump 3, " +
				"endtry, jump 19, storelocal 0, jump 19"},
		{"for a in b:\n try:\n  while c:\n   break\n   try:\n    continue\n   except:\n    pass\n  continue\n except:\n  pass", // another loop between
			"loadglobal b, iter, next 23, setglobal a, try 20, " +
				"loadglobal c, ifnot 16, jump 16, try 13, endtry, jump 5, endtry, jump 15, storelocal 1, jump 15, jump 5, " +
				"endtry, jump 2, endtry, jump 22, storelocal 0, jump 22, jump 2"},
	})
}

func TestP18_4Return(t *testing.T) {
	lines(t, "P18.4", [][]string{
		{"def f(a):\n return", "func 1 0, setglobal f", "def f 1 0 0 0: const None, return, const None, return"},
		{"def f(a):\n return a", "func 1 0, setglobal f", "def f 1 0 0 0: loadlocal 0, return, const None, return"},
		{"def f(a):\n return a, 1", "func 1 0, setglobal f", "def f 1 0 0 0: loadlocal 0, const 1, tuple 2, return, const None, return"},
		{"def f(a):\n return None", "func 1 0, setglobal f", "def f 1 0 0 0: const None, return, const None, return"},
		{"def f(a):\n for b in a:\n  try:\n   return b\n  except:\n   return", "func 1 0, setglobal f", // nothing is closed
			"def f 1 0 0 0: loadlocal 0, iter, next 14, storelocal 1, try 9, loadlocal 1, return, endtry, jump 13, storelocal 2, const None, return, jump 13, jump 2, const None, return"},
	})
}

func TestP18_4Raise(t *testing.T) {
	modules(t, "P18.4", [][2]string{
		{"raise a", "loadglobal a, raise"},
		{"raise a(1)", "loadglobal a, const 1, call 1 0, raise"},
		{"try:\n a\nexcept:\n raise", "try 5, loadglobal a, pop, endtry, jump 9, storelocal 0, loadlocal 0, raise, jump 9"},
		{"try:\n a\nexcept:\n raise b", "try 5, loadglobal a, pop, endtry, jump 9, storelocal 0, loadglobal b, raise, jump 9"},
		{"try:\n a\nexcept:\n while b:\n  raise", "try 5, loadglobal a, pop, endtry, jump 12, storelocal 0, loadglobal b, ifnot 11, loadlocal 0, raise, jump 6, jump 12"},
		{"try:\n a\nexcept:\n try:\n  b\n except C:\n  raise\n except:\n  try:\n   raise\n  except:\n   raise\n raise",
			"try 5, loadglobal a, pop, endtry, jump 32, storelocal 0, " +
				"try 11, loadglobal b, pop, endtry, jump 29, storelocal 1, loadlocal 1, loadglobal C, match, ifnot 19, loadlocal 1, raise, jump 29, " +
				"try 24, loadlocal 1, raise, endtry, jump 28, storelocal 2, loadlocal 2, raise, jump 28, jump 29, loadlocal 0, raise, jump 32"},
	})
	lines(t, "P18.4", [][]string{
		{"def f(a):\n try:\n  b = 1\n except:\n  raise", "func 1 0, setglobal f",
			"def f 1 0 0 0: try 5, const 1, storelocal 1, endtry, jump 9, storelocal 2, loadlocal 2, raise, jump 9, const None, return"},
		{"class A:\n try:\n  b = 1\n except:\n  raise", "func 1 0, class A 0, setglobal A",
			"class A 0 0 0 0: try 5, const 1, setname b, endtry, jump 9, storelocal 0, loadlocal 0, raise, jump 9, const None, return"},
	})
}

func TestP18_4Try(t *testing.T) {
	modules(t, "P18.4", [][2]string{
		{"try:\n pass\nexcept:\n pass", "try 3, endtry, jump 5, storelocal 0, jump 5"},
		{"try:\n pass\nexcept B:\n pass", "try 3, endtry, jump 11, storelocal 0, loadlocal 0, loadglobal B, match, ifnot 9, jump 11, loadlocal 0, raise"},
		{"try:\n pass\nexcept B as b:\n pass", "try 3, endtry, jump 13, storelocal 0, loadlocal 0, loadglobal B, match, ifnot 11, loadlocal 0, setglobal b, jump 13, loadlocal 0, raise"},
		{"try:\n a\nexcept B as e:\n raise\nexcept:\n c",
			"try 5, loadglobal a, pop, endtry, jump 18, storelocal 0, loadlocal 0, loadglobal B, match, ifnot 15, loadlocal 0, setglobal e, loadlocal 0, raise, jump 18, loadglobal c, pop, jump 18"},
		{"try:\n a\nexcept B:\n b\nexcept C.d as c:\n e\nexcept f(D):\n g",
			"try 5, loadglobal a, pop, endtry, jump 34, storelocal 0, loadlocal 0, loadglobal B, match, ifnot 13, loadglobal b, pop, jump 34, " +
				"loadlocal 0, loadglobal C, loadattr d, match, ifnot 23, loadlocal 0, setglobal c, loadglobal e, pop, jump 34, " +
				"loadlocal 0, loadglobal f, loadglobal D, call 1 0, match, ifnot 32, loadglobal g, pop, jump 34, loadlocal 0, raise"},
		{"try:\n try:\n  a\n except:\n  pass\nexcept:\n pass\ntry:\n b\nexcept:\n pass",
			"try 10, try 6, loadglobal a, pop, endtry, jump 8, storelocal 1, jump 8, endtry, jump 12, storelocal 0, jump 12, try 17, loadglobal b, pop, endtry, jump 19, storelocal 2, jump 19"},
	})
	lines(t, "P18.4", [][]string{
		{"def f():\n try:\n  pass\n except A as e:\n  def g():\n   e", "func 1 0, setglobal f",
			"def f 0 0 1 0: try 3, endtry, jump 16, storelocal 1, loadlocal 1, loadglobal A, match, ifnot 14, loadlocal 1, storecell 0, pushcell 0, func 2 0, storelocal 0, jump 16, loadlocal 1, raise, const None, return",
			"def g 0 0 0 1: loadcell 0, pop, const None, return"},
	})
}

// TestP18_4Scopes: what a Def and a Class are made of where they stand.
func TestP18_4Scopes(t *testing.T) {
	lines(t, "P18.4", [][]string{
		{"def f(a, b=c, d=e.g, **r):\n pass", "loadglobal c, loadglobal e, loadattr g, func 1 2, setglobal f", "def f 3 2 rest 0 0: const None, return"},
		{"class A:\n pass", "func 1 0, class A 0, setglobal A", "class A 0 0 0 0: const None, return"},
		{"class A(b.C):\n def f(self, x=A):\n  pass", "loadglobal b, loadattr C, func 1 0, class A 1, setglobal A",
			"class A 0 0 0 0: loadglobal A, func 2 1, setname f, const None, return",
			"def f 2 1 0 0: const None, return"},
		{"def f(b, a):\n c = 1\n def g(x=b, y=a):\n  return [c for d in a if b]", "func 1 0, setglobal f",
			"def f 2 0 3 0: loadlocal 0, storecell 1, loadlocal 1, storecell 0, const 1, storecell 2, " +
				"loadcell 1, loadcell 0, pushcell 0, pushcell 1, pushcell 2, func 2 2, storelocal 2, const None, return",
			"def g 2 2 0 3: pushcell 1, pushcell 2, func 3 0, loadcell 0, iter, call 1 0, return, const None, return",
			"comp 1 0 0 2: list 0, loadlocal 0, next 9, storelocal 1, loadcell 0, ifnot 2, loadcell 1, append 2, jump 2, return"},
		{"def f(x, B):\n class A(B):\n  y = x\n  class C(x):\n   def g(self):\n    return x, B", "func 1 0, setglobal f",
			"def f 2 0 2 0: loadlocal 0, storecell 1, loadlocal 1, storecell 0, loadcell 0, pushcell 0, pushcell 1, func 2 0, class A 1, storelocal 2, const None, return",
			"class A 0 0 0 2: loadcell 1, setname y, loadcell 1, pushcell 0, pushcell 1, func 3 0, class C 1, setname C, const None, return",
			"class C 0 0 0 2: pushcell 0, pushcell 1, func 4 0, setname g, const None, return",
			"def g 1 0 0 2: loadcell 1, loadcell 0, tuple 2, return, const None, return"},
		{"def f(a):\n def g(b):\n  def h():\n   return b, a\n  return h", "func 1 0, setglobal f", // a cell and a free here
			"def f 1 0 1 0: loadlocal 0, storecell 0, pushcell 0, func 2 0, storelocal 1, const None, return",
			"def g 1 0 1 1: loadlocal 0, storecell 0, pushcell 1, pushcell 0, func 3 0, storelocal 1, loadlocal 1, return, const None, return",
			"def h 0 0 0 2: loadcell 1, loadcell 0, tuple 2, return, const None, return"},
		{"def f():\n def f():\n  return f\n class A:\n  return_ = A", "func 1 0, setglobal f", // their names are cells
			"def f 0 0 2 0: pushcell 1, func 2 0, storecell 1, pushcell 0, func 3 0, class A 0, storecell 0, const None, return",
			"def f 0 0 0 1: loadcell 0, return, const None, return",
			"class A 0 0 0 1: loadcell 0, setname return_, const None, return"},
		{"def f():\n global g\n def g():\n  pass", "func 1 0, setglobal f", "def f 0 0 0 0: func 2 0, setglobal g, const None, return", "def g 0 0 0 0: const None, return"},
	})
}

func TestP18_5Values(t *testing.T) {
	modules(t, "P18.5", [][2]string{
		{"a", "loadglobal a, pop"},
		{"1", "const 1, pop"},
		{"123456789012345678901234567890", "const 123456789012345678901234567890, pop"},
		{"'it\\'s'", "const 'it\\'s', pop"},
		{"None", "const None, pop"},
		{"True", "const True, pop"},
		{"False", "const False, pop"},
		{"()", "tuple 0, pop"},
		{"(a,)", "loadglobal a, tuple 1, pop"},
		{"a, 1, b", "loadglobal a, const 1, loadglobal b, tuple 3, pop"},
		{"[]", "list 0, pop"},
		{"[a, (b, c), [1]]", "loadglobal a, loadglobal b, loadglobal c, tuple 2, const 1, list 1, list 3, pop"},
		{"{a}", "set, loadglobal a, additem 1, pop"},
		{"{a, {1}, 2}", "set, loadglobal a, additem 1, set, const 1, additem 1, additem 1, const 2, additem 1, pop"},
		{"{}", "dict, pop"},
		{"{a: b}", "dict, loadglobal a, loadglobal b, addpair 1, pop"},
		{"{**a}", "dict, loadglobal a, merge 1, pop"},
		{"{a: b, **c, 1: {2: 3}, **{}}", "dict, loadglobal a, loadglobal b, addpair 1, loadglobal c, merge 1, const 1, dict, const 2, const 3, addpair 1, addpair 1, dict, merge 1, pop"},
		{"a.b", "loadglobal a, loadattr b, pop"},
		{"a.b.c", "loadglobal a, loadattr b, loadattr c, pop"},
		{"a[b]", "loadglobal a, loadglobal b, loadindex, pop"},
		{"a[b][1, 2].c", "loadglobal a, loadglobal b, loadindex, const 1, const 2, tuple 2, loadindex, loadattr c, pop"},
	})
}

func TestP18_5Ways(t *testing.T) {
	modules(t, "P18.5", [][2]string{
		{"a if b else c", "loadglobal b, ifnot 4, loadglobal a, jump 5, loadglobal c, pop"},
		{"a if b else c if d else e", "loadglobal b, ifnot 4, loadglobal a, jump 9, loadglobal d, ifnot 8, loadglobal c, jump 9, loadglobal e, pop"},
		{"(a if b else c) if (d if e else g) else h",
			"loadglobal e, ifnot 4, loadglobal d, jump 5, loadglobal g, ifnot 12, loadglobal b, ifnot 10, loadglobal a, jump 11, loadglobal c, jump 13, loadglobal h, pop"},
		{"a or b", "loadglobal a, or 3, loadglobal b, pop"},
		{"a and b", "loadglobal a, and 3, loadglobal b, pop"},
		{"a or b or c", "loadglobal a, or 3, loadglobal b, or 5, loadglobal c, pop"},
		{"a or b and c", "loadglobal a, or 5, loadglobal b, and 5, loadglobal c, pop"},
		{"(a or b) and (c or d)", "loadglobal a, or 3, loadglobal b, and 7, loadglobal c, or 7, loadglobal d, pop"},
		{"a and (b and c) or d", "loadglobal a, and 5, loadglobal b, and 5, loadglobal c, or 7, loadglobal d, pop"},
		{"not a", "loadglobal a, not, pop"},
		{"-a", "loadglobal a, negative, pop"},
		{"not not - -1", "const 1, negative, negative, not, not, pop"},
	})
	for i, sign := range strings.Fields("+ - * // % & | ^") {
		modules(t, "P18.5", [][2]string{{"a " + sign + " 1", "loadglobal a, const 1, binary " + string(rune('1'+i)) + ", pop"}})
	}
	for i, sign := range []string{"==", "!=", "<", "<=", ">", ">=", "in", "not in", "is", "is not"} {
		number := []string{"1", "2", "3", "4", "5", "6", "7", "8", "9", "10"}[i]
		modules(t, "P18.5", [][2]string{{"a " + sign + " 1", "loadglobal a, const 1, compare " + number + ", pop"}})
	}
	modules(t, "P18.5", [][2]string{
		{"a - b - c * d == (e | 1) + -2", "loadglobal a, loadglobal b, binary 2, loadglobal c, loadglobal d, binary 3, binary 2, " +
			"loadglobal e, const 1, binary 7, const 2, negative, binary 1, compare 1, pop"},
	})
}

func TestP18_5Call(t *testing.T) {
	modules(t, "P18.5", [][2]string{
		{"f()", "loadglobal f, call 0 0, pop"},
		{"f(a)", "loadglobal f, loadglobal a, call 1 0, pop"},
		{"f(a, 1, (b, c))", "loadglobal f, loadglobal a, const 1, loadglobal b, loadglobal c, tuple 2, call 3 0, pop"},
		{"f(k=a)", "loadglobal f, dict, const 'k', loadglobal a, addpair 1, call 0 1, pop"},
		{"f(a, k=1, f=b)", "loadglobal f, loadglobal a, dict, const 'k', const 1, addpair 1, const 'f', loadglobal b, addpair 1, call 1 1, pop"},
		{"f(**a)", "loadglobal f, dict, loadglobal a, keyword 1, call 0 1, pop"},
		{"f(a, b, **{})", "loadglobal f, loadglobal a, loadglobal b, dict, dict, keyword 1, call 2 1, pop"},
		{"f(a, k=b, **c)", "loadglobal f, loadglobal a, dict, const 'k', loadglobal b, addpair 1, loadglobal c, keyword 1, call 1 1, pop"},
		{"a.f(b)(c)[d](e=g(1))", "loadglobal a, loadattr f, loadglobal b, call 1 0, loadglobal c, call 1 0, loadglobal d, loadindex, dict, const 'e', loadglobal g, const 1, call 1 0, addpair 1, call 0 1, pop"},
	})
}

// TestP18_5Comprehensions: what is laid where a comprehension stands.
func TestP18_5Comprehensions(t *testing.T) {
	for _, sides := range [][2]string{{"[a ", "]"}, {"{a ", "}"}, {"{1: a ", "}"}} {
		modules(t, "P18.5", [][2]string{
			{sides[0] + "for a in b" + sides[1], "func 1 0, loadglobal b, iter, call 1 0, pop"},
			{"x = y, " + sides[0] + "for a in b(c) if d" + sides[1], "loadglobal y, func 1 0, loadglobal b, loadglobal c, call 1 0, iter, call 1 0, tuple 2, setglobal x"},
		})
		p, _ := answer(t, read(t, "def f(c, b, a, e):\n return "+sides[0]+"for d in e if b if c"+sides[1]))
		got := told(p, api.Fault{})
		if !strings.Contains(got, "def f 4 0 3 0: loadlocal 0, storecell 2, loadlocal 1, storecell 1, loadlocal 2, storecell 0, pushcell 0, pushcell 1, pushcell 2, func 2 0, loadlocal 3, iter, call 1 0, return") {
			t.Errorf("P18.5: %s", got)
		}
	}
}

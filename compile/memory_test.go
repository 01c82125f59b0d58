package compile_test

import (
	"fmt"
	"reflect"
	"slices"
	"strings"
	"testing"

	"lexicon/api"
	"lexicon/code"
	"lexicon/compile"
	"lexicon/scope"
	"lexicon/tree"
)

// TestP18_6Alike: sources of one tree are compiled alike, wherever its parts
// stand.
func TestP18_6Alike(t *testing.T) {
	for _, group := range [][]string{
		{"", "\n\n", "# x"},
		{"a = b", "a=b", "(a) = (b)", "\n\na  =  b # x"},
		{"if a:\n b\nelif c:\n d", "if a:\n  b\nelse:\n if c:\n    d"},
		{"def f(a, b=1):\n return a\n", "def f ( a,b = 1, ):\n\n  # x\n  return(a)"},
		{"a - b - c", "(a - b) - c"},
		{"f(a, k=[1, 2])", "f(a, k=[1,\n2,],)"},
		{"break", "\n\nbreak"},
		{"try:\n a\nexcept B as b:\n raise", "try:\n   a\nexcept (B) as b:\n raise # x"},
	} {
		first, f := answer(t, read(t, group[0]))
		for _, src := range group[1:] {
			p, g := answer(t, read(t, src))
			if g.Code != f.Code || raw(p, api.Fault{}) != raw(first, api.Fault{}) {
				t.Errorf("P18.6: %q and %q: %s", group[0], src, told(p, g))
			}
		}
	}
	// Places in the order of the tree: else a declared name may occur ahead of its
	// declaration, by its place.
	for _, placeOf := range []func(n int) int{
		func(n int) int { return n },
		func(n int) int { return 3*n - 1000 },
		func(n int) int { return n / 7 },
		func(int) int { return 0 },
	} {
		n := read(t, rich)
		want := raw(compile.Compile(n))
		next := 0
		eachNode(&n, func(n *api.Node) { n.At, next = placeOf(next), next+1 })
		if got := raw(answer(t, n)); got != want {
			t.Errorf("P18.6: got %s, want %s", got, want)
		}
	}
}

// TestP18_6Verified: programs of all kinds of parts are right, and print.
func TestP18_6Verified(t *testing.T) {
	p, f := answer(t, read(t, rich))
	if f != (api.Fault{}) || code.Print(p) == "" || len(p.Funcs) != 7 {
		t.Errorf("P18.6: %d functions, %v", len(p.Funcs), f)
	}
}

// TestOneListTwice: one list of Kids may stand at several places of a tree.
func TestOneListTwice(t *testing.T) {
	one := read(t, "def f(x=[a for a in b]):\n def g():\n  return {x for c in x}\n class A:\n  pass\n try:\n  pass\n except:\n  raise").Kids[0].Kids[0]
	p, f := answer(t, module(one, one, node(api.NodeWhile, "", named("a"), block(one, one)), one))
	if f != (api.Fault{}) || len(p.Funcs) != 26 {
		t.Fatalf("P18.2: %d functions, %v", len(p.Funcs), f)
	}
	seen := map[int]int{}
	for _, f := range p.Funcs {
		for _, i := range f.Code {
			if i.Op == api.OpFunc {
				seen[i.A]++
			}
		}
	}
	for number := 1; number < len(p.Funcs); number++ {
		if seen[number] != 1 {
			t.Errorf("P18.4: function %d is made %d times", number, seen[number])
		}
	}
}

// rich has every kind of scope and of use, and numbers of several words.
const rich = "def f(x, y=[a for a in b]):\n class A(B):\n  x = 18446744073709551617\n  def g(self, **r):\n   nonlocal y\n   y = x\n   return [x for k in y]\n" +
	" try:\n  pass\n except E as e:\n  raise\n global z\n z = 4294967296\n while z:\n  break\n return f(1, k=z, **{1: 18446744073709551617})\n{2: 3 for a in b}\n"

// copied is a tree in new memory.
func copied(n api.Node) api.Node {
	n.Num.Mag = slices.Clone(n.Num.Mag)
	n.Kids = slices.Clone(n.Kids)
	for i := range n.Kids {
		n.Kids[i] = copied(n.Kids[i])
	}
	return n
}

// roomy is a tree whose lists have spare room, with something in it.
func roomy(n api.Node) api.Node {
	kids := make([]api.Node, 0, len(n.Kids)+2)
	for _, kid := range n.Kids {
		kids = append(kids, roomy(kid))
	}
	copy(kids[len(kids):cap(kids)], []api.Node{{Kind: 77, Text: "spare"}, {Kind: 78, Text: "room"}})
	n.Kids = kids
	mag := append(slices.Clone(n.Num.Mag), 77, 78)
	n.Num.Mag = mag[:len(mag)-2]
	return n
}

// spare is what stands in a tree's spare room.
func spare(n api.Node) string {
	var out strings.Builder
	eachNode(&n, func(n *api.Node) {
		fmt.Fprint(&out, n.Kids[len(n.Kids):cap(n.Kids)], n.Num.Mag[len(n.Num.Mag):cap(n.Num.Mag)])
	})
	return out.String()
}

// spoil turns all of a tree.
func spoil(n *api.Node) {
	for i := range n.Kids {
		spoil(&n.Kids[i])
	}
	for i := range n.Num.Mag {
		n.Num.Mag[i] = 99
	}
	*n = api.Node{Kind: 99, At: -1, Text: "spoilt", Kids: n.Kids}
}

func TestP18_7HandedIn(t *testing.T) {
	for _, src := range []string{rich, "", "a = b", "18446744073709551616, 1", "return", "nonlocal x", "f(k=1, k=2)"} {
		n := roomy(read(t, src))
		before, room := copied(n), spare(n)
		p, f := compile.Compile(n)
		first := raw(p, f)
		if !reflect.DeepEqual(copied(n), before) || spare(n) != room {
			t.Errorf("P18.7: %q was changed", src)
		}
		spoil(&n)
		if got := raw(p, f); got != first {
			t.Errorf("P18.7: %q was kept: %s, then %s", src, first, got)
		}
		if got := raw(compile.Compile(before)); got != first {
			t.Errorf("P18.7: %q: %s, then %s", src, first, got)
		}
	}
}

// spoilList turns a list, its spare room with it.
func spoilList[T any](list []T, with T) {
	list = list[:cap(list)]
	for i := range list {
		list[i] = with
	}
}

// TestP18_7Lists: what is answered is new at each call, and no two lists of an
// answer share room.
func TestP18_7Lists(t *testing.T) {
	want := raw(compile.Compile(read(t, rich)))
	n := read(t, rich)
	whole := func(turn func(p *api.Program)) {
		t.Helper()
		p, _ := compile.Compile(n)
		other, f := compile.Compile(n)
		turn(&p)
		if got := raw(other, f); got != want {
			t.Fatalf("P18.7: another answer is turned: %s", got)
		}
		if got := raw(compile.Compile(n)); got != want {
			t.Fatalf("P18.7: what was answered is kept: %s", got)
		}
	}
	whole(func(p *api.Program) {
		for i := range p.Funcs {
			spoilList(p.Funcs[i].Names, "spoilt")
			spoilList(p.Funcs[i].Code, api.Instr{Op: 99})
		}
		for i := range p.Consts {
			spoilList(p.Consts[i].Num.Mag, 99)
		}
		spoilList(p.Funcs, api.Func{Name: "spoilt"})
		spoilList(p.Consts, api.Const{Kind: 99})
		spoilList(p.Names, "spoilt")
	})

	// Each list is turned alone, and laid anew as it was: the rest must be as it
	// was.
	one := func(turn func(p *api.Program)) {
		t.Helper()
		p, f := compile.Compile(n)
		turn(&p)
		if got := raw(p, f); got != want {
			t.Fatalf("P18.7: two lists share room: got %s, want %s", got, want)
		}
	}
	p, _ := compile.Compile(n)
	for i := range p.Funcs {
		one(func(p *api.Program) {
			kept := slices.Clone(p.Funcs[i].Names)
			spoilList(p.Funcs[i].Names, "spoilt")
			p.Funcs[i].Names = kept
		})
		one(func(p *api.Program) {
			kept := slices.Clone(p.Funcs[i].Code)
			spoilList(p.Funcs[i].Code, api.Instr{Op: 99})
			p.Funcs[i].Code = kept
		})
	}
	for i := range p.Consts {
		one(func(p *api.Program) {
			kept := slices.Clone(p.Consts[i].Num.Mag)
			spoilList(p.Consts[i].Num.Mag, 99)
			p.Consts[i].Num.Mag = kept
		})
	}
	one(func(p *api.Program) {
		kept := slices.Clone(p.Names)
		spoilList(p.Names, "spoilt")
		p.Names = kept
	})
}

// TestSame: what is answered hangs on nothing but the tree, also beside others.
func TestSame(t *testing.T) {
	n := read(t, rich)
	want := raw(compile.Compile(n))
	done := make(chan string)
	for range 8 {
		go func() {
			p, f := api.Program{}, api.Fault{}
			for range 20 {
				p, f = compile.Compile(n)
			}
			done <- raw(p, f)
		}()
	}
	for range 8 {
		if got := <-done; got != want {
			t.Errorf("P18.7: got %s, want %s", got, want)
		}
	}
}

// TestP18_6Refused: trees alike but for the At, of which one is refused.
func TestP18_6Refused(t *testing.T) {
	for _, src := range []string{"return", "break", "def f(a, a):\n pass", "nonlocal x", "def f(x):\n global x", "f(a=1, a=2)", "raise"} {
		n := read(t, src)
		_, want := answer(t, n)
		p, got := answer(t, tree.Bare(n))
		if want.Code == 0 || got != (api.Fault{Code: want.Code}) || len(p.Funcs) > 0 {
			t.Errorf("P18.6: %q: %v, %v", src, want, got)
		}
	}
	// A name that occurs ahead of its declaration is told by the At alone.
	n := read(t, "x = 1\nglobal x")
	if _, f := scope.Scopes(n); f.Code != api.FaultGlobal {
		t.Errorf("P16.2: %v", f)
	}
	if _, f := answer(t, tree.Bare(n)); f != (api.Fault{}) {
		t.Errorf("P18.1: %v", f)
	}
}

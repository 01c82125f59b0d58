package store_test

import (
	"fmt"
	"math"
	"slices"
	"strings"
	"testing"

	"lexicon/api"
	"lexicon/digest"
	"lexicon/meter"
	"lexicon/store"
	"lexicon/whole"
)

// through is a walk through a value.
type through int

func (w through) Through() int { return int(w) }

// zoo is values of every kind, by names.
type zoo struct {
	*store.Store
	of map[string]int
}

func newZoo(t *testing.T) zoo {
	t.Helper()
	s := fresh(t, rules(10), nil)
	v := build(t, s, noneTerm(), boolTerm(true), boolTerm(false), intTerm(0), intTerm(-5), strTerm(""), strTerm("a\u00f1'"),
		term(api.ValTuple), term(api.ValTuple, 0, 4), term(api.ValList), term(api.ValList, 9, 10), // 7 to 10
		term(api.ValDict), term(api.ValDict, 4, 6, 0, 5, 1, 10), term(api.ValSet), term(api.ValSet, 6, 4), term(api.ValFrozen), term(api.ValFrozen, 0), // 11 to 16
		instance(false, false),
		term(api.ValKeys, 11), term(api.ValKeys, 12), term(api.ValValues, 11), term(api.ValValues, 12), term(api.ValItems, 11), term(api.ValItems, 12)) // 18 to 23
	z := zoo{Store: s, of: map[string]int{}}
	for i, name := range strings.Fields("none true false zero int empty str tuple0 tuple list0 list dict0 dict set0 set frozen0 frozen instance0 keys0 keys values0 values items0 items") {
		z.of[name] = v[i]
	}
	z.of["cell0"], z.of["cell"] = s.NewCell(), s.NewCell()
	s.Get(z.of["cell"]).(*store.Cell).Value = v[4]
	z.of["func"] = s.NewFunc(3, "f", []int{v[4], v[0]}, []int{z.of["cell"]})
	z.of["native"] = s.NewNative(2, "len")
	z.of["bound"] = s.NewBound(v[10], z.of["native"])
	z.of["class0"] = s.NewClass("A", store.Nothing)
	z.of["class"] = s.NewClass("B", z.of["class0"])
	s.Get(z.of["class"]).(*store.Class).Begin(api.GoalPut, digest.Text("n"), s.NewStr("n"), v[8]).Step()
	z.of["instance"] = s.NewInstance(z.of["class"])
	space := s.Get(z.of["instance"]).(*store.Instance).Space
	space.Set("x", v[6])
	space.Set("y", v[10])
	z.of["vars0"] = s.NewView(api.ValVars, v[17])
	z.of["vars"] = s.NewView(api.ValVars, z.of["instance"])
	z.of["varsclass"] = s.NewView(api.ValVars, z.of["class"])
	z.of["iter"] = s.NewIter(through(v[10]))
	z.of["iter0"] = s.NewIter(through(store.Nothing))
	return z
}

// kindRow is what is to be told of a value of a zoo.
type kindRow struct {
	name  string
	kind  int
	tag   string // # stands for an object's
	truth bool
	len   string
	parts string // by names
}

func kindRows() []kindRow {
	return []kindRow{
		{"none", api.ValNone, "None", false, noSize, ""},
		{"true", api.ValBool, "True", true, noSize, ""},
		{"false", api.ValBool, "False", false, noSize, ""},
		{"zero", api.ValInt, "0", false, noSize, ""},
		{"int", api.ValInt, "-5", true, noSize, ""},
		{"empty", api.ValStr, "''", false, "0 0", ""},
		{"str", api.ValStr, "'a\u00f1\\''", true, "3 0", ""},
		{"tuple0", api.ValTuple, "#", false, "0 0", ""},
		{"tuple", api.ValTuple, "#", true, "2 0", "none int"},
		{"list0", api.ValList, "#", false, "0 0", ""},
		{"list", api.ValList, "#", true, "2 0", "list0 list"},
		{"dict0", api.ValDict, "#", false, "0 0", ""},
		{"dict", api.ValDict, "#", true, "3 0", "int str none empty true list"},
		{"set0", api.ValSet, "#", false, "0 0", ""},
		{"set", api.ValSet, "#", true, "2 0", "str int"},
		{"frozen0", api.ValFrozen, "#", false, "0 0", ""},
		{"frozen", api.ValFrozen, "#", true, "1 0", "none"},
		{"instance0", api.ValInstance, "#", true, noSize, ""},
		{"instance", api.ValInstance, "#", true, noSize, "str list"},
		{"keys0", api.ValKeys, "#", false, "0 0", "dict0"},
		{"keys", api.ValKeys, "#", true, "3 0", "dict"},
		{"values0", api.ValValues, "#", false, "0 0", "dict0"},
		{"values", api.ValValues, "#", true, "3 0", "dict"},
		{"items0", api.ValItems, "#", false, "0 0", "dict0"},
		{"items", api.ValItems, "#", true, "3 0", "dict"},
		{"vars0", api.ValVars, "#", false, "0 0", "instance0"},
		{"vars", api.ValVars, "#", true, "2 0", "instance"},
		{"varsclass", api.ValVars, "#", true, "1 0", "class"},
		{"func", api.ValFunc, "#", true, noSize, ""},
		{"native", api.ValNative, "<native len>", true, noSize, ""},
		{"bound", api.ValBound, "#", true, noSize, ""},
		{"class0", api.ValClass, "#", true, noSize, ""},
		{"iter", api.ValIter, "#", true, noSize, ""},
		{"cell0", api.ValCell, "#", true, noSize, ""},
		{"cell", api.ValCell, "#", true, noSize, ""},
	}
}

// TestEveryKind: Kind, Number, Tag, Truth, Len and Parts of a value of each
// kind.
func TestEveryKind(t *testing.T) {
	z := newZoo(t)
	for _, r := range kindRows() {
		v := z.of[r.name]
		is(t, "P19.3: Kind of "+r.name, z.Kind(v), r.kind)
		is(t, "P19.4: Truth of "+r.name, z.Truth(v), r.truth)
		is(t, "P19.4: Len of "+r.name, size(z.Store, v), r.len)
		var parts []int
		for _, name := range strings.Fields(r.parts) {
			parts = append(parts, z.of[name])
		}
		is(t, "P19.6: Parts of "+r.name, z.Parts(v), parts)
		if r.tag == "#" {
			if z.Number(v) < 1 {
				t.Errorf("P19.3: Number of %s: %d", r.name, z.Number(v))
			}
			is(t, "P19.3: Tag of "+r.name, z.Tag(v), fmt.Sprint("#", z.Number(v)))
		} else {
			is(t, "P19.3: Tag, Number of "+r.name, []any{z.Tag(v), z.Number(v)}, []any{r.tag, 0})
		}
	}
	class := z.Parts(z.of["class"])
	is(t, "P19.6: a class's namespace", []any{len(class), z.Tag(class[0]), class[1]}, []any{2, "'n'", z.of["tuple"]})
}

// TestP19_3Numbers: unlike objects have unlike numbers, in the order in which
// they are made.
func TestP19_3Numbers(t *testing.T) {
	z := newZoo(t)
	byNumber := map[int]string{}
	for name, v := range z.of {
		if n := z.Number(v); n > 0 {
			if byNumber[n] != "" {
				t.Errorf("P19.3: %s and %s have the number %d", name, byNumber[n], n)
			}
			byNumber[n] = name
		}
	}
	order := []string{"tuple0", "tuple", "list0", "list", "dict0", "dict", "set0", "set", "frozen0", "frozen", "the class of instance0", "instance0", "keys0", "keys", "values0", "values", "items0", "items", "cell0", "cell", "func", "bound", "class0", "class", "instance", "vars0", "vars", "varsclass", "iter", "iter0"}
	for i, name := range order {
		if got := byNumber[i+1]; got != name && i != 10 {
			t.Errorf("P19.3: number %d is %s, want %s", i+1, got, name)
		}
	}
	is(t, "P19.7: Live", z.Live(), len(order))
}

func TestP19_3Tags(t *testing.T) {
	huge, _ := whole.Parse("-340282366920938463463374607431768211456")
	s, v := built(t, intTerm(math.MinInt), intTerm(math.MaxInt), api.Term{Kind: api.ValInt, Num: huge}, strTerm("it's \\ \n\t\x00\x7f\u0080\u2028\ufeff \"q\""), strTerm("#1"), words(true, 0, 0, 1))
	is(t, "P19.3: Tag", tags(s, v...), `-9223372036854775808 9223372036854775807 -340282366920938463463374607431768211456 'it\'s \\ \n\t\x00\x7f\u0080\u2028\ufeff "q"' '#1' -18446744073709551616`)
	for range 9 {
		build(t, s, term(api.ValTuple))
	}
	is(t, "P19.3: a number of two digits", tags(s, build(t, s, term(api.ValList))...), "#10")
	is(t, "P19.3: a native", tags(s, s.NewNative(38, "update"), s.NewNative(0, "")), "<native update> <native >")
}

// TestNoValues: what is no value: below 0, never given, swept.
func TestNoValues(t *testing.T) {
	z := newZoo(t)
	swept := build(t, z.Store, term(api.ValTuple), intTerm(4), strTerm("b"), term(api.ValList, 0, 3))
	var roots []int
	for _, v := range z.of {
		roots = append(roots, v)
	}
	is(t, "P19.7: Sweep", z.Sweep(roots), 2)
	none := append(swept, -1, -2, math.MinInt, math.MaxInt, 1<<32, 1<<20)
	for _, v := range none {
		if got := all(z.Store, v); got != nothing {
			t.Errorf("of %d, which is no value: %s", v, got)
		}
		for name, w := range z.of {
			if z.Is(v, w) || z.Is(w, v) || z.Alike(v, w) || z.Alike(w, v) {
				t.Errorf("P19.5: %d, which is no value, is %s", v, name)
			}
		}
		for _, w := range none {
			if z.Is(v, w) || z.Alike(v, w) {
				t.Errorf("P19.5: %d and %d, which are no values", v, w)
			}
		}
	}
}

// TestP19_5Plain: Is and Alike of plain values of every kind, each with each.
func TestP19_5Plain(t *testing.T) {
	make := func(t *testing.T, s *store.Store) []int {
		v := build(t, s, noneTerm(), boolTerm(true), boolTerm(false), intTerm(1), intTerm(0), intTerm(-1), words(false, 1, 1), words(true, 1, 1), strTerm(""), strTerm("1"), strTerm("True"), strTerm("None"), strTerm("print"))
		return append(v, s.NewNative(1, "print"), s.NewNative(2, "len"))
	}
	s := fresh(t, rules(3), nil)
	a, b := make(t, s), make(t, s)
	alike := map[[2]int]bool{{1, 3}: true, {3, 1}: true, {2, 4}: true, {4, 2}: true}
	for i, x := range a {
		for k, y := range b {
			what := fmt.Sprintf("P19.5: %s, %s", s.Tag(x), s.Tag(y))
			is(t, what, []bool{s.Is(x, y), s.Alike(x, y)}, []bool{i == k, i == k || alike[[2]int{i, k}]})
		}
	}
}

// TestP19_5Objects: of objects both are sameness, whatever they have.
func TestP19_5Objects(t *testing.T) {
	z := newZoo(t)
	twins := map[string]int{
		"tuple0": z.NewTuple(nil), "tuple": z.NewTuple(z.Parts(z.of["tuple"])), "list0": z.NewList(nil), "dict0": z.NewDict(), "set0": z.NewSet(false), "frozen0": z.NewSet(true),
		"func": z.NewFunc(3, "f", nil, nil), "bound": z.NewBound(z.of["list"], z.of["native"]), "class0": z.NewClass("A", store.Nothing), "instance": z.NewInstance(z.of["class"]),
		"keys": z.NewView(api.ValKeys, z.of["dict"]), "vars": z.NewView(api.ValVars, z.of["instance"]), "iter": z.NewIter(through(z.of["list"])), "cell0": z.NewCell(),
	}
	for name, v := range twins {
		if w := z.of[name]; z.Is(v, w) || z.Alike(v, w) || z.Kind(v) != z.Kind(w) {
			t.Errorf("P19.5: two objects, %s", name)
		}
	}
	for a, v := range z.of {
		for b, w := range z.of {
			if (v == w) != z.Is(v, w) && z.Number(v) > 0 {
				t.Errorf("P19.5: %s is %s", a, b)
			}
			if z.Number(v) > 0 && z.Alike(v, w) != (v == w) {
				t.Errorf("P19.9: %s, %s: of objects Alike is sameness", a, b)
			}
		}
	}
}

// TestP19_9Equivalences: of all values of a zoo, and equal ones beside them.
func TestP19_9Equivalences(t *testing.T) {
	z := newZoo(t)
	values := build(t, z.Store, intTerm(1), intTerm(1), intTerm(0), intTerm(-5), strTerm(""), strTerm("a\u00f1'"), noneTerm(), boolTerm(true), boolTerm(false))
	values = append(values, z.NewNative(2, "len"), z.NewNative(3, "hash"))
	for _, v := range z.of {
		values = append(values, v)
	}
	for name, same := range map[string]func(a, b int) bool{"Is": z.Is, "Alike": z.Alike} {
		for _, a := range values {
			if !same(a, a) {
				t.Errorf("P19.9: %s: %s is not itself", name, z.Tag(a))
			}
			for _, b := range values {
				if same(a, b) != same(b, a) {
					t.Errorf("P19.9: %s of %s, %s hangs on the order", name, z.Tag(a), z.Tag(b))
				}
				if z.Is(a, b) && !z.Alike(a, b) {
					t.Errorf("P19.9: %s, %s: Is, but not Alike", z.Tag(a), z.Tag(b))
				}
				for _, c := range values {
					if same(a, b) && same(b, c) && !same(a, c) {
						t.Errorf("P19.9: %s goes not through %s, %s, %s", name, z.Tag(a), z.Tag(b), z.Tag(c))
					}
				}
			}
		}
	}
}

// TestP19_7Leads: what a value of each kind has goes on with it, and nothing
// else.
func TestP19_7Leads(t *testing.T) {
	for name, want := range map[string]string{
		"int":       "int",
		"tuple":     "tuple int",
		"list":      "list list0",
		"dict":      "dict int str empty list list0",
		"set":       "set str int",
		"frozen":    "frozen",
		"func":      "func int cell",
		"native":    "native",
		"bound":     "bound list list0 native",
		"class0":    "class0",
		"class":     "class class0 tuple int",
		"instance0": "instance0",
		"instance":  "instance class class0 tuple int str list list0",
		"keys":      "keys dict int str empty list list0",
		"values":    "values dict int str empty list list0",
		"items0":    "items0 dict0",
		"vars0":     "vars0 instance0",
		"vars":      "vars instance class class0 tuple int str list list0",
		"varsclass": "varsclass class class0 tuple int",
		"iter":      "iter list list0",
		"iter0":     "iter0",
		"cell0":     "cell0",
		"cell":      "cell int",
	} {
		z := newZoo(t)
		stay := append(strings.Fields(want), "none", "true", "false")
		before, objects := z.Live(), 0
		for _, x := range stay {
			if z.Number(z.of[x]) > 0 {
				objects++
			}
		}
		if name == "instance0" || name == "vars0" {
			objects++ // its class, of which the zoo has no name
		}
		is(t, "P19.7: Sweep of "+name, []int{z.Sweep([]int{z.of[name]}), z.Live()}, []int{before - objects, objects})
		for x, v := range z.of {
			if (z.Kind(v) != 0) != slices.Contains(stay, x) {
				t.Errorf("P19.7: swept but for %s: %s has the kind %d", name, x, z.Kind(v))
			}
		}
		is(t, "P19.7: again", z.Sweep([]int{z.of[name]}), 0)
	}
}

// TestP19_7GoesOn: what could be reached is told as before.
func TestP19_7GoesOn(t *testing.T) {
	z := newZoo(t)
	before := map[string]string{}
	var roots []int
	for name, v := range z.of {
		before[name] = all(z.Store, v)
		roots = append(roots, v)
	}
	slices.Sort(roots)
	garbage := build(t, z.Store, term(api.ValTuple), term(api.ValList, 0, 1), instance(true, true), strTerm("gone"), term(api.ValDict, 3, 0))
	is(t, "P19.7: Sweep", z.Sweep(append(roots, -1, math.MinInt, math.MaxInt, 5000)), 5)
	for name, v := range z.of {
		is(t, "P19.7: "+name, all(z.Store, v), before[name])
	}
	for _, v := range garbage {
		is(t, "P19.7: no value any more", all(z.Store, v), nothing)
	}
}

func TestP19_7Roots(t *testing.T) {
	for what, roots := range map[string][]int{"none": nil, "empty": {}, "no values": {-1, math.MinInt, 900, math.MaxInt}} {
		s, v := built(t, noneTerm(), boolTerm(true), boolTerm(false), intTerm(3), strTerm("a"), term(api.ValTuple, 0, 3), term(api.ValList, 6, 5), instance(false, false), term(api.ValDict, 4, 5), term(api.ValKeys, 8))
		is(t, "P19.7: roots: "+what, []int{s.Sweep(roots), s.Live(), s.Sweep(roots)}, "[6 0 0]")
		is(t, "P19.7: what can always be reached", tags(s, v...), "None True False       ")
		is(t, "P19.7: is one with what is given again", s.Is(build(t, s, noneTerm())[0], v[0]), true)
	}
	s := fresh(t, rules(3), nil)
	is(t, "P19.7: nothing was made", []int{s.Sweep(nil), s.Sweep([]int{0, 1}), s.Live()}, "[0 0 0]")
}

// TestP19_7Loops: lists within one another, of which one ring can be reached.
func TestP19_7Loops(t *testing.T) {
	s, v := built(t, term(api.ValList, 1), term(api.ValList, 2, 2), term(api.ValList, 0), term(api.ValList, 4), term(api.ValTuple, 3, 0), term(api.ValList, 5))
	s.Get(v[3]).(*store.List).Values = []int{v[4]} // 3 and 4 are a ring that leads to the other one
	is(t, "P19.7: a ring goes, another one stays", []any{s.Sweep([]int{v[1]}), s.Live(), tags(s, v...)}, "[3 3 #1 #2 #3   ]")
	is(t, "P19.6: it is as it was", []any{s.Parts(v[0]), s.Parts(v[1]), s.Parts(v[2])}, []any{[]int{v[1]}, []int{v[2], v[2]}, []int{v[0]}})
	is(t, "P19.7: it goes, too", []int{s.Sweep(nil), s.Live()}, "[3 0]")
}

// TestP19_7Chain: a way may be as long as there are values.
func TestP19_7Chain(t *testing.T) {
	s := fresh(t, rules(3), nil)
	terms := []api.Term{term(api.ValTuple)}
	for n := range 100000 {
		terms = append(terms, term(api.ValTuple, n))
	}
	v := build(t, s, terms...)
	is(t, "P19.7: a chain", []int{s.Sweep(v[len(v)-1:]), s.Live(), s.Sweep(v[:10]), s.Live()}, "[0 100001 99991 10]")
}

// TestP19_7Instances: an instance has its class, a class not its instances; a
// key of a set, a dict's value, a view's dict.
func TestP19_7Instances(t *testing.T) {
	s, v := built(t, hashing(1), instance(false, false), term(api.ValDict, 0, 1), term(api.ValItems, 2), term(api.ValSet, 1))
	class, _ := classOf(t, s, v[1])
	is(t, "P19.7: a set's element", []any{s.Sweep([]int{v[4], v[3]}), s.Live()}, "[0 7]")
	is(t, "P19.7: an instance", []any{s.Sweep([]int{v[1]}), s.Live(), s.Kind(class)}, []any{5, 2, api.ValClass})
	is(t, "P19.7: its class alone", []any{s.Sweep([]int{class}), s.Live(), s.Kind(v[1]), s.Kind(class)}, []any{1, 1, 0, api.ValClass})
}

// TestP19_7Names: what stood in a namespace, and was taken out, goes.
func TestP19_7Names(t *testing.T) {
	s, v := built(t, instance(false, false), intTerm(70), intTerm(71), term(api.ValTuple), term(api.ValDict, 1, 3))
	space := s.Get(v[0]).(*store.Instance).Space
	space.Set("a", v[1])
	space.Set("b", v[2])
	space.Set("a", v[3])
	is(t, "P19.6: names", s.Parts(v[0]), []int{v[3], v[2]})
	space.Del("b")
	is(t, "P19.6: a name less", s.Parts(v[0]), []int{v[3]})
	s.Get(v[4]).(*store.Dict).Clear()
	is(t, "P19.7: Sweep", []any{s.Sweep([]int{v[0], v[4]}), tags(s, v...)}, "[0 #2   #3 #4]")
}

// TestP19_7GivenAgain: behind a Sweep references may be given again, numbers
// never (P19.9).
func TestP19_7GivenAgain(t *testing.T) {
	s, v := built(t, intTerm(7), strTerm("a"), term(api.ValTuple, 0), instance(false, false), term(api.ValDict, 1, 0))
	kept := v[4]
	is(t, "P19.7: Sweep", s.Sweep([]int{kept}), 3)
	w := build(t, s, intTerm(7), strTerm("a"), intTerm(8), term(api.ValTuple, 2), instance(false, false), term(api.ValSet, 0, 2))
	is(t, "P19.9: numbers", tags(s, w...), "7 'a' 8 #5 #7 #8")
	is(t, "P19.7: what stayed", []any{s.Tag(kept), parts(s, kept), s.Live()}, "[#4 'a' 7 5]")
	is(t, "P19.5: what is plain", []bool{s.Is(w[0], s.Parts(kept)[1]), s.Is(w[1], s.Parts(kept)[0])}, "[true true]")
	if slices.Contains(w, kept) || slices.Contains(w, v[0]) && !s.Is(w[0], v[0]) {
		t.Errorf("P19.7: a reference was given twice: %v, %v", v, w)
	}
	for range 20 {
		s.Sweep(nil)
		before := s.Number(build(t, s, term(api.ValList))[0])
		if next := s.Number(build(t, s, term(api.ValList))[0]); next != before+1 {
			t.Errorf("P19.9: %d behind %d", next, before)
		}
	}
	is(t, "P19.7: Live", s.Live(), 2)
	for _, n := range []int{1, 2, 3, 4} {
		for v := range 100 {
			if s.Number(v) == n {
				t.Errorf("P19.9: the number %d was given again", n)
			}
		}
	}
}

func TestP19_8Nil(t *testing.T) {
	var s *store.Store
	for _, list := range [][]api.Term{nil, {noneTerm()}, {term(0)}} {
		v, e := s.Build(list)
		is(t, "P19.8: Build", []any{len(v), e}, []any{0, api.ErrArg})
	}
	for _, v := range []int{0, 1, -1, math.MinInt, math.MaxInt} {
		n, e := s.Len(v)
		is(t, "P19.8", []any{s.Kind(v), s.Number(v), s.Tag(v), s.Truth(v), n, e, s.Alike(v, v), s.Is(v, v), len(s.Parts(v)), s.Live(), s.Sweep([]int{v}), s.Sweep(nil)}, "[0 0  false 0 0 false false 0 0 0 0]")
	}
}

// TestZeroStore: of a zero Store nothing is said; it is as that of zero Rules.
func TestZeroStore(t *testing.T) {
	s := &store.Store{}
	is(t, "a zero Store", []any{all(s, 0), s.Live(), s.Sweep(nil)}, []any{nothing, 0, 0})
	v := build(t, s, intTerm(1), term(api.ValTuple, 0), instance(true, false), term(api.ValDict), noneTerm())
	is(t, "of a zero Store", []any{tags(s, v...), s.Live(), s.Sweep(v[1:2]), s.Live()}, "[1 #1 #3 #4 None 4 3 1]")
	_, e := s.Build([]api.Term{noneTerm(), term(api.ValSet, 0)})
	is(t, "a pair", e, api.ErrBig)
}

// TestP19_10HandedIn: what is handed in stays as it is, its spare room too.
func TestP19_10HandedIn(t *testing.T) {
	const spare = 77
	roomy := func(list ...int) []int { return append(list, spare, spare, spare)[:len(list)] }
	mag := append([]uint32{1, 2, 0, 0}, spare, spare)[:4]
	terms := func() []api.Term {
		return []api.Term{{Kind: api.ValInt, Num: api.Int{Neg: true, Mag: mag}}, strTerm("a"), {Kind: api.ValTuple, Kids: roomy(0, 1)}, {Kind: api.ValList, Kids: roomy(4, 3, 3)}, {Kind: api.ValDict, Kids: roomy(0, 1, 1, 0)}, {Kind: api.ValSet, Kids: roomy(0, 1, 0)}, {Kind: api.ValInstance, Hash: true, Num: api.Int{Mag: mag}, Kids: roomy()}, {Kind: api.ValKeys, Kids: roomy(4)}, {Kind: api.ValFrozen, Kids: roomy(6)}}
	}
	bad := terms()
	bad = append(bad, term(api.ValTuple, 99))
	list, roots := terms(), roomy(3, 3, -1)
	full := func(list []api.Term) string {
		text := ""
		for _, x := range list {
			text += fmt.Sprintf("%+v %v %v;", x, x.Kids[:cap(x.Kids)], x.Num.Mag[:cap(x.Num.Mag)])
		}
		return text
	}
	before, beforeBad := full(list), full(bad)
	s := fresh(t, rules(9), nil)
	v, e := s.Build(list)
	_, e2 := s.Build(bad)
	is(t, "P19.10: Build", []any{len(v), e, e2}, []any{9, api.OK, api.ErrArg})
	s.Sweep(append(roots, v[3])[:len(roots)])
	s.Sweep(roots)
	is(t, "P19.10: terms", []any{full(list), full(bad)}, []any{before, beforeBad})
	is(t, "P19.10: roots", roots[:3], []int{3, 3, -1})
	roots = append(roomy(), spare)[:0]
	s.Build([]api.Term{noneTerm(), boolTerm(true)})
	s.Sweep(roots)
	is(t, "P19.10: the roots' spare room", roots[:1], []int{spare})
}

// TestP19_10NotKept: what was handed in may be changed behind the call.
func TestP19_10NotKept(t *testing.T) {
	s := fresh(t, rules(9), nil)
	list := []api.Term{words(false, 9, 9), strTerm("a"), term(api.ValTuple, 0, 1), term(api.ValList, 2, 3), term(api.ValDict, 0, 1), term(api.ValSet, 1), term(api.ValKeys, 4), {Kind: api.ValInstance, Hash: true, Num: api.Int{Mag: []uint32{6}}}, term(api.ValFrozen, 7)}
	v, _ := s.Build(list)
	told := func() (text string) {
		for _, x := range v {
			text += all(s, x) + fmt.Sprint(hashes(s, x))
		}
		return text
	}
	before := told()
	for i := range list {
		for k := range list[i].Kids {
			list[i].Kids[k] = 8 - i
		}
		for k := range list[i].Num.Mag {
			list[i].Num.Mag[k] = 1
		}
		list[i] = api.Term{}
	}
	is(t, "P19.10: changed behind the call", told(), before)
	r := api.Rules{Pairs: 1, Input: []string{"a"}}
	s, _ = store.New(r, nil)
	r.Pairs = 0
	_, e := s.Build([]api.Term{noneTerm(), term(api.ValSet, 0)})
	is(t, "P19.10: Rules", e, api.OK)
	values := []int{0, 0, 0}
	x, y, f := s.NewTuple(values), s.NewList(values), s.NewFunc(0, "f", values, nil)
	values[0] = 1
	is(t, "P19.10: rows", []any{s.Parts(x), s.Parts(y), s.Get(f).(*store.Func).Defaults}, "[[0 0 0] [0 0 0] [0 0 0]]")
}

// TestP19_10NewMemory: what was answered may be written over.
func TestP19_10NewMemory(t *testing.T) {
	z := newZoo(t)
	before := map[string]string{}
	for name, v := range z.of {
		before[name] = all(z.Store, v)
	}
	for _, v := range z.of {
		p, q := z.Parts(v), z.Parts(v)
		for i := range p {
			p[i] = -1
		}
		_ = append(p[:0], 5, 5)
		if len(q) > 0 && q[0] == -1 {
			t.Errorf("P19.10: Parts of %s twice are one list", z.Tag(v))
		}
	}
	for name, v := range z.of {
		is(t, "P19.10: "+name, all(z.Store, v), before[name])
	}
	v := build(t, z.Store, term(api.ValTuple), term(api.ValList, 0, 1))
	w := slices.Clone(v)
	v[0], v[1] = 0, 0
	is(t, "P19.10: Build's answer", []any{tags(z.Store, z.Parts(w[1])...), z.Kind(w[1])}, []any{tags(z.Store, w...), api.ValList})
}

// TestTwoStores: they have nothing in common but the Meter.
func TestTwoStores(t *testing.T) {
	m := &meter.Meter{}
	a, b := fresh(t, rules(3), m), fresh(t, rules(5), m)
	v := build(t, a, term(api.ValTuple), term(api.ValDict))
	w := build(t, b, term(api.ValList), intTerm(4), term(api.ValSet, 1))
	is(t, "two Stores", []any{tags(a, v...), tags(b, w...), a.Live(), b.Live(), m.Read().Tables}, "[#1 #2 #1 4 #2 2 2 2]")
	is(t, "two Stores: Sweep", []int{a.Sweep(nil), a.Live(), b.Live()}, "[2 0 2]")
}

func TestExamplesOfChapter19(t *testing.T) {
	s := fresh(t, api.Rules{Pairs: 10, Shared: 3}, nil)
	v := build(t, s, intTerm(1), boolTerm(true), strTerm("a"), term(api.ValDict, 0, 2, 1, 0), term(api.ValList, 3, 4), instance(false, false), term(api.ValTuple), term(api.ValKeys, 3))
	is(t, "first row", tags(s, v...), "1 True 'a' #1 #2 #4 #5 #6")
	is(t, "first row: its class", s.Number(s.Get(v[5]).(*store.Instance).Class), 3)
	is(t, "second row", []any{s.Parts(v[3]), size(s, v[3]), s.Alike(v[0], v[1]), s.Is(v[0], v[1]), s.Truth(v[6]), size(s, v[7])}, []any{[]int{v[0], v[0]}, "1 0", true, false, false, "1 0"})
	is(t, "third row", []int{s.Live(), s.Sweep([]int{v[4]}), s.Live()}, "[6 4 2]")
	is(t, "third row: what went", tags(s, v...), "1 True  #1 #2   ")
}

package equal_test

import (
	"fmt"
	"testing"

	"lexicon/api"
	"lexicon/equal"
	"lexicon/store"
)

// TestP20_2Plain: what is plain is the same just where it is alike.
func TestP20_2Plain(t *testing.T) {
	terms := []api.Term{none(), boolean(true), boolean(false), num(0), num(1), num(1), num(2), num(-1), str(""), str("a"), str("a"), str("1"), str("None"), none(), boolean(true)}
	class := []int{0, 1, 2, 2, 1, 1, 3, 4, 5, 6, 6, 7, 8, 0, 1}
	k := built(t, terms...)
	for i, a := range k.v {
		for j, b := range k.v {
			so := class[i] == class[j]
			turns := 1
			if so {
				turns = 0
			}
			says(t, fmt.Sprintf("P20.2: %s, %s", k.Tag(a), k.Tag(b)), equal.Same(k.Store, a, b), turns, done(so))
		}
	}
	f, g := k.NewNative(1, "print"), k.NewNative(2, "len")
	says(t, "P20.2: natives", equal.Same(k.Store, f, k.NewNative(1, "print")), 0, done(true))
	says(t, "P20.2: natives", equal.Same(k.Store, f, g), 1, done(false))
}

// TestP20_2Itself: a value and itself are alike, whatever it is; nobody is asked.
func TestP20_2Itself(t *testing.T) {
	k := built(t, both(1), samer(), list(2), tuple(0), dict(0, 0), set(0), items(4), values(4), keys(4), frozen(0), plain())
	for _, v := range k.v {
		says(t, "P20.2: itself", equal.Same(k.Store, v, v), 0, done(true))
		is(t, "P20.7: no turn is needed", equal.Same(k.Store, v, v).Step(0), done(true))
	}
}

// TestP20_2Asks: an instance whose class says __eq__ is asked, a ahead of b.
func TestP20_2Asks(t *testing.T) {
	k := built(t, both(1), samer(), hasher(1), plain(), num(5), str("x"), tuple(), list(), dict(), set(), items(8), none(), tuple(0))
	yes, no := k.v[4], k.v[11]
	for _, x := range k.v[:2] {
		for _, other := range k.v[2:] {
			says(t, "P20.2: as a", equal.Same(k.Store, x, other), 1, askSame(x, other), yes, done(true))
			says(t, "P20.2: as b", equal.Same(k.Store, other, x), 1, askSame(x, other), no, done(false))
		}
	}
	says(t, "P20.2: both", equal.Same(k.Store, k.v[0], k.v[1]), 1, askSame(k.v[0], k.v[1]), no, done(false))
	says(t, "P20.2: both", equal.Same(k.Store, k.v[1], k.v[0]), 1, askSame(k.v[1], k.v[0]), yes, done(true))
	// Those that say nothing of it are the same as nothing but themselves.
	for _, x := range k.v[2:4] {
		for _, other := range k.v[2:] {
			if x != other {
				says(t, "P20.2: it says nothing", equal.Same(k.Store, x, other), 1, done(false))
			}
		}
	}
}

func TestP20_2Classes(t *testing.T) {
	k := built(t, num(5))
	same, hash, other := []string{"__eq__"}, []string{"__hash__"}, []string{"x"}
	for what, names := range map[string][][]string{
		"itself": {same}, "its base": {nil, same}, "its base's base": {other, hash, same}, "among others": {{"x", "y", "__eq__"}},
	} {
		x := k.named(names...)
		says(t, "P20.2: "+what, equal.Same(k.Store, k.v[0], x), 1, askSame(x, k.v[0]), k.v[0], done(true))
		y := k.Get(x).(*store.Instance).Class
		says(t, "P20.2: its class is no instance: "+what, equal.Same(k.Store, y, k.v[0]), 1, done(false))
	}
	x := k.named(hash, other, []string{"__eq"})
	says(t, "P20.2: another name", equal.Same(k.Store, x, k.v[0]), 1, done(false))
	y := k.NewInstance(k.NewClass("D", k.Get(k.builds(t, samer())).(*store.Instance).Class))
	says(t, "P20.2: of a Term's class", equal.Same(k.Store, y, x), 1, askSame(y, x), k.v[0], done(true))
}

// TestP20_2Told: what is told is taken by its truth.
func TestP20_2Told(t *testing.T) {
	k := built(t, both(1), num(9), // 0, 1
		boolean(true), num(1), num(-5), str("0"), tuple(1), list(1), dict(1, 1), set(1), frozen(1), keys(8), values(8), items(8), plain(), // 2 to 14
		none(), boolean(false), num(0), str(""), tuple(), list(), dict(), set(), frozen(), keys(21), values(21), items(21)) // 15 to 26
	for i, v := range k.v[2:] {
		says(t, "P20.2: told "+k.Tag(v), equal.Same(k.Store, k.v[0], k.v[1]), 1, askSame(k.v[0], k.v[1]), v, done(i+2 < 15))
	}
	for _, v := range []int{k.NewNative(1, "len"), k.NewClass("A", store.Nothing), k.NewCell(), k.NewIter(through{})} {
		says(t, "P20.2: told "+k.Tag(v), equal.Same(k.Store, k.v[0], k.v[1]), 1, askSame(k.v[0], k.v[1]), v, done(true))
	}
}

// TestP20_2ToldLater: the truth is that of when it goes on.
func TestP20_2ToldLater(t *testing.T) {
	k := built(t, both(1), num(9), list(), set())
	m := equal.Same(k.Store, k.v[0], k.v[1])
	m.Step(1)
	m.Tell(k.v[3])
	is(t, "P20.2: a put", equal.Look(k.Store, k.v[3], api.GoalPut, k.v[1], 0).Step(9), missed(0))
	is(t, "P20.2: what was told is not empty by now", m.Step(0), done(true))
}

func TestP20_2Rows(t *testing.T) {
	k := built(t, num(1), num(2), boolean(true), tuple())
	kinds := []func([]int) int{k.NewTuple, k.NewList}
	v := func(numbers ...int) (row []int) {
		for _, n := range numbers {
			row = append(row, k.v[n])
		}
		return row
	}
	for _, x := range []struct {
		a, b  []int
		turns int
		yes   bool
	}{
		{nil, nil, 1, true},
		{v(0), v(0), 1, true},
		{v(0, 1, 0), v(0, 1, 0), 1, true},
		{v(0, 1), v(2, 1), 1, true}, // True is 1
		{v(0, 1, 0), v(1, 1, 0), 2, false},
		{v(0, 1, 0), v(0, 0, 0), 2, false},
		{v(0, 1, 0), v(0, 1, 1), 2, false},
		{v(0, 1, 0), v(1, 0, 1), 2, false}, // the first one that differs is the last one that is looked at
		{v(0, 1, 0), v(0, 1), 1, false},
		{v(0), v(0, 1, 0), 1, false},
		{nil, v(0), 1, false},
		{v(0), nil, 1, false},
		{v(3), []int{k.NewTuple(nil)}, 2, true},
		{[]int{k.NewTuple(v(0)), k.NewTuple(v(1))}, []int{k.NewTuple(v(0)), k.NewTuple(v(1))}, 3, true},
		{[]int{k.NewTuple(v(0)), k.NewTuple(v(1))}, []int{k.NewTuple(v(0)), k.NewTuple(v(0))}, 4, false},
		{[]int{k.NewList(v(0)), k.v[0]}, []int{k.NewTuple(v(0)), k.v[0]}, 2, false},
	} {
		for i, make := range kinds {
			a, b := make(x.a), make(x.b)
			says(t, fmt.Sprint("P20.2: rows ", i, x), equal.Same(k.Store, a, b), x.turns, done(x.yes))
			says(t, fmt.Sprint("P20.2: rows of two kinds ", i, x), equal.Same(k.Store, a, kinds[1-i](x.b)), 1, done(false))
		}
	}
}

// TestP20_2RowsAsk: instances in rows are asked in order, up to the first no.
func TestP20_2RowsAsk(t *testing.T) {
	k := built(t, both(1), both(2), num(1), num(0), tuple(0, 2, 1), tuple(1, 2, 0), list(0, 1), list(2, 2), list(4), list(5))
	x, y, one, nought := k.v[0], k.v[1], k.v[2], k.v[3]
	says(t, "P20.2: twice yes", equal.Same(k.Store, k.v[4], k.v[5]), 3, askSame(x, y), one, askSame(y, x), one, done(true))
	says(t, "P20.2: then no", equal.Same(k.Store, k.v[4], k.v[5]), 3, askSame(x, y), one, askSame(y, x), nought, done(false))
	says(t, "P20.2: no at once", equal.Same(k.Store, k.v[4], k.v[5]), 2, askSame(x, y), nought, done(false))
	says(t, "P20.2: as b", equal.Same(k.Store, k.v[7], k.v[6]), 3, askSame(x, one), one, askSame(y, one), one, done(true))
	says(t, "P20.2: within", equal.Same(k.Store, k.v[8], k.v[9]), 4, askSame(x, y), one, askSame(y, x), one, done(true))
}

// TestP20_2RowsNow: who is asked may change the lists.
func TestP20_2RowsNow(t *testing.T) {
	fresh := func() (kit, *equal.Machine) {
		k := built(t, both(1), num(1), num(2), num(0), list(0, 1, 1), list(2, 1, 1))
		m := equal.Same(k.Store, k.v[4], k.v[5])
		is(t, "P20.2", m.Step(many), askSame(k.v[0], k.v[2]))
		return k, m
	}
	for what, x := range map[string]struct {
		change func(k kit, a, b *store.List)
		yes    bool
		turns  int
	}{
		"nothing":        {func(k kit, a, b *store.List) {}, true, 2},
		"a is shorter":   {func(k kit, a, b *store.List) { a.Values = a.Values[:2] }, false, 2},
		"b is shorter":   {func(k kit, a, b *store.List) { b.Values = b.Values[:1] }, false, 2},
		"both are empty": {func(k kit, a, b *store.List) { a.Values, b.Values = nil, nil }, true, 2},
		"a is longer":    {func(k kit, a, b *store.List) { a.Values = append(a.Values, k.v[1]) }, false, 2},
		"both are longer": {func(k kit, a, b *store.List) {
			a.Values = append(a.Values, k.v[1])
			b.Values = append(b.Values, k.v[1])
		}, true, 2},
		"both, unlike": {func(k kit, a, b *store.List) {
			a.Values = append(a.Values, k.v[1])
			b.Values = append(b.Values, k.v[2])
		}, false, 3},
		"what is behind":        {func(k kit, a, b *store.List) { a.Values[2] = k.v[2] }, false, 3},
		"what is behind, twice": {func(k kit, a, b *store.List) { a.Values[2], b.Values[2] = k.v[2], k.v[2] }, true, 2},
		"what it was asked of":  {func(k kit, a, b *store.List) { a.Values[0] = k.v[3] }, true, 2},
		"the first is gone":     {func(k kit, a, b *store.List) { a.Values = a.Values[1:]; b.Values = b.Values[1:] }, true, 2},
		"they change places":    {func(k kit, a, b *store.List) { a.Values, b.Values = b.Values, a.Values }, true, 2},
	} {
		k, m := fresh()
		x.change(k, k.list(k.v[4]), k.list(k.v[5]))
		m.Tell(k.v[1])
		is(t, "P20.2: "+what, []any{m.Step(many), m.Turns()}, []any{done(x.yes), x.turns})
	}
}

// TestP20_2InThemselves: lists within themselves take turns without end,
// unless something ahead of that is unlike.
func TestP20_2InThemselves(t *testing.T) {
	k := built(t, list(0), list(1), num(1), num(2), list(4, 2), list(5, 3), list(2, 6), list(3, 7), list(9), list(8), tuple(0), tuple(1))
	for _, x := range [][2]int{{0, 1}, {4, 5}, {8, 9}, {0, 8}, {10, 11}} {
		m := equal.Same(k.Store, k.v[x[0]], k.v[x[1]])
		for n := range 20 {
			is(t, "P20.9: it goes on", m.Step(n), more)
		}
		is(t, "P20.9", m.Turns(), 190)
	}
	says(t, "P20.2: something unlike ahead", equal.Same(k.Store, k.v[6], k.v[7]), 2, done(false))
	says(t, "P20.2: of unlike Len", equal.Same(k.Store, k.v[0], k.v[4]), 1, done(false))
	says(t, "P20.2: itself", equal.Same(k.Store, k.v[0], k.v[0]), 0, done(true))
}

func TestP20_2Dicts(t *testing.T) {
	k := built(t, num(1), num(2), num(3), boolean(true), // 0 to 3
		dict(), dict(), dict(0, 1), dict(0, 1), dict(3, 1), dict(0, 2), // 4 to 9
		dict(0, 1, 1, 0), dict(1, 0, 0, 1), dict(0, 1, 1, 1), dict(1, 1, 0, 1), dict(2, 1, 1, 0), // 10 to 14
		dict(0, 6), dict(3, 7), dict(0, 9), dict(0, 1, 1, 2, 2, 0), dict(2, 0, 0, 1, 1, 2), set(0), keys(6)) // 15 to 21
	for _, x := range []struct {
		a, b, turns int
		yes         bool
	}{
		{4, 5, 1, true}, {6, 7, 1, true}, {6, 8, 1, true}, {8, 6, 1, true}, {6, 9, 2, false}, // another value
		{4, 6, 1, false}, {6, 4, 1, false}, {6, 10, 1, false}, {10, 6, 1, false}, // unlike Len
		{10, 11, 1, true}, {11, 10, 1, true}, {10, 12, 2, false}, {12, 13, 1, true}, {10, 14, 1, false}, {14, 10, 1, false},
		{15, 16, 2, true}, {15, 17, 3, false}, {18, 19, 1, true}, {6, 20, 1, false}, {20, 6, 1, false}, {6, 21, 1, false}, {21, 6, 1, false},
	} {
		says(t, fmt.Sprint("P20.2: dicts ", x), equal.Same(k.Store, k.v[x.a], k.v[x.b]), x.turns, done(x.yes))
	}
}

// TestP20_2DictsAsk: a's pairs are found in b in a's order, each value compared
// ahead of the next pair; a's values, and its pairs, are those of the beginning.
func TestP20_2DictsAsk(t *testing.T) {
	k := built(t, both(1), both(2), both(3), both(4), num(1), num(0), dict(4, 0, 5, 1), dict(5, 3, 4, 2))
	one, nought, a, b := k.v[4], k.v[5], k.v[6], k.v[7]
	p, q, r, s := k.v[0], k.v[1], k.v[2], k.v[3]
	same := func() *equal.Machine { return equal.Same(k.Store, a, b) }
	says(t, "P20.2: yes", same(), 3, askSame(p, r), one, askSame(q, s), one, done(true))
	says(t, "P20.2: no at the first", same(), 2, askSame(p, r), nought, done(false))
	says(t, "P20.2: no at the last", same(), 3, askSame(p, r), one, askSame(q, s), nought, done(false))

	m := same()
	is(t, "P20.2", m.Step(many), askSame(p, r))
	k.put(a, nought, 0, one) // a's value, as it was at the beginning, is q
	k.put(b, nought, 0, r)   // what is found is that of now
	k.put(a, r, 77, one)     // a pair more of a is not looked at
	m.Tell(one)
	is(t, "P20.2: changed", m.Step(many), askSame(q, r))
	m.Tell(one)
	is(t, "P20.2: changed", m.Step(many), done(true))

	m = equal.Same(k.Store, k.NewDict(), a)
	is(t, "P20.2: unlike Len", m.Step(many), done(false))
}

// TestP20_2DictsGone: a pair that a loses meanwhile is looked for, one that b
// loses is not found.
func TestP20_2DictsGone(t *testing.T) {
	fresh := func() (kit, *equal.Machine) {
		k := built(t, both(1), both(2), num(1), num(0), dict(2, 0, 3, 3), dict(2, 1, 3, 3))
		m := equal.Same(k.Store, k.v[4], k.v[5])
		is(t, "P20.2", m.Step(many), askSame(k.v[0], k.v[1]))
		m.Tell(k.v[2])
		return k, m
	}
	k, m := fresh()
	k.take(k.v[4], k.v[3], 0)
	is(t, "P20.2: it is in b", m.Step(many), done(true))
	k, m = fresh()
	k.take(k.v[4], k.v[3], 0)
	k.take(k.v[5], k.v[3], 0)
	is(t, "P20.2: it is not in b", m.Step(many), done(false))
}

// TestP20_2KeptHashes: keys are looked for with the hashes that their pairs
// keep; theirs are not taken.
func TestP20_2KeptHashes(t *testing.T) {
	k := built(t, both(5), both(5), both(6), num(1), dict(0, 3), dict(1, 3), dict(2, 3), set(0), frozen(1), set(2), num(0), dict(3, 0), dict(3, 0))
	x, y, one, nought := k.v[0], k.v[1], k.v[3], k.v[10]
	says(t, "P20.2: dicts", equal.Same(k.Store, k.v[4], k.v[5]), 2, askSame(y, x), one, done(true)) // the stored key is b's
	says(t, "P20.2: dicts", equal.Same(k.Store, k.v[4], k.v[5]), 2, askSame(y, x), nought, done(false))
	says(t, "P20.2: other hashes", equal.Same(k.Store, k.v[4], k.v[6]), 1, done(false))
	says(t, "P20.2: sets", equal.Same(k.Store, k.v[7], k.v[8]), 2, askSame(y, x), one, done(true))
	says(t, "P20.2: sets", equal.Same(k.Store, k.v[8], k.v[7]), 2, askSame(x, y), nought, done(false))
	says(t, "P20.2: other hashes", equal.Same(k.Store, k.v[7], k.v[9]), 1, done(false))
	a, b := k.NewSet(false), k.NewSet(true)
	k.put(a, one, 3, 0)
	k.put(b, one, 4, 0)
	says(t, "P20.2: one key of two hashes", equal.Same(k.Store, a, b), 1, done(false))
}

// TestP20_2Sides: sets, frozen sets, keys and items views, in each mixture.
func TestP20_2Sides(t *testing.T) {
	k := built(t, num(1), num(2), num(3), dict(0, 1, 1, 2), dict(1, 0, 0, 2), dict(0, 1), dict(0, 1, 2, 2), dict())
	sides := func(numbers ...int) (list []int) {
		frozen, d := k.NewSet(true), k.NewDict()
		a := k.NewSet(false)
		for _, n := range numbers {
			k.put(a, k.v[n], n+1, 0)
			k.put(frozen, k.v[n], n+1, 0)
			k.put(d, k.v[n], n+1, k.v[0])
		}
		return []int{a, frozen, k.NewView(api.ValKeys, d)}
	}
	groups := [][]int{sides(), sides(0), sides(1), sides(0, 1), sides(1, 0), sides(0, 2), sides(0, 1, 2)}
	content := []int{0, 1, 2, 3, 3, 4, 5}
	for i, as := range groups {
		for j, bs := range groups {
			for _, a := range as {
				for _, b := range bs {
					turns := 1
					if a == b {
						turns = 0
					}
					says(t, fmt.Sprint("P20.2: sides ", i, j), equal.Same(k.Store, a, b), turns, done(content[i] == content[j]))
				}
			}
		}
	}
	// What is no side is the same as none.
	for _, x := range [][2]int{{k.NewView(api.ValValues, k.v[7]), k.NewSet(false)}, {k.NewSet(true), k.v[7]}, {k.NewTuple(nil), k.NewSet(true)}, {k.NewList(nil), k.NewView(api.ValItems, k.v[7])}, {k.NewView(api.ValKeys, k.v[7]), k.v[7]}, {k.v[7], k.NewView(api.ValItems, k.v[7])}} {
		for i := range 2 {
			says(t, "P20.2: no side", equal.Same(k.Store, x[i], x[1-i]), 1, done(false))
		}
	}
}

// TestP20_2Items: items views are gathered, each for itself, a first.
func TestP20_2Items(t *testing.T) {
	k := built(t, num(1), num(2), boolean(true), dict(0, 1, 1, 0), dict(1, 2, 0, 1), dict(0, 1), dict(0, 1, 1, 1), dict(), // 3 to 7
		tuple(0, 1), tuple(1, 0), tuple(2, 1))
	view := func(n int) int { return k.NewView(api.ValItems, k.v[n]) }
	sets := func(frozen bool, tuples ...int) int {
		v := k.NewSet(frozen)
		for _, n := range tuples {
			k.put(v, k.v[n], equal.Hash(k.Store, k.v[n]).Step(9).Hash, 0)
		}
		return v
	}
	for i, x := range []struct {
		a, b, turns int
		yes         bool
	}{
		// One for the pair, three for the hash of each tuple, one for each two tuples that are compared.
		{view(3), view(3), 1 + 6 + 6 + 2, true},
		{view(3), view(4), 1 + 6 + 6 + 2, true},
		{view(4), view(3), 1 + 6 + 6 + 2, true},
		{view(7), view(7), 1, true},
		{view(3), view(5), 1 + 6 + 3, false},
		{view(3), view(6), 1 + 6 + 6 + 1, false},
		{view(5), sets(false, 8), 1 + 3 + 1, true},
		{sets(true, 10), view(5), 1 + 3 + 1, true},
		{view(3), sets(true, 9, 8), 1 + 6 + 2, true},
		{view(3), sets(true, 9), 1 + 6, false},
		{view(5), sets(false, 9), 1 + 3, false},
		{view(7), sets(false), 1, true},
		{view(7), k.NewView(api.ValKeys, k.v[7]), 1, true},
		{k.NewView(api.ValKeys, k.v[3]), view(3), 1 + 6, false},
	} {
		says(t, fmt.Sprint("P20.2: items ", i), equal.Same(k.Store, x.a, x.b), x.turns, done(x.yes))
	}
}

// TestP20_2ItemsFail: a pair whose value has no hash can't be gathered; it is
// found in a first, and though the other one has another Len.
func TestP20_2ItemsFail(t *testing.T) {
	k := built(t, num(1), list(), dict(0, 1), dict(0, 0), items(2), items(3), items(2), set(), frozen(0), keys(3), dict(), items(10), items(3))
	for _, other := range []int{5, 7, 8, 9, 11} {
		says(t, "P20.2: as a", equal.Same(k.Store, k.v[4], k.v[other]), 4, failed)
	}
	for i, turns := range map[int]int{5: 7, 7: 4, 8: 4, 9: 4, 11: 4, 6: 4} {
		says(t, fmt.Sprint("P20.2: as b of ", i), equal.Same(k.Store, k.v[i], k.v[4]), turns, failed)
	}
	says(t, "P20.2: of no pair", equal.Same(k.Store, k.v[11], k.v[5]), 4, done(false))
}

// TestP20_2Values: values views are the same as nothing but themselves.
func TestP20_2Values(t *testing.T) {
	k := built(t, num(1), dict(0, 0), values(1), values(1), keys(1), items(1), set(0), plain())
	for _, other := range k.v[3:] {
		for i := range 2 {
			x := [2]int{k.v[2], other}
			says(t, "P20.2: a values view", equal.Same(k.Store, x[i], x[1-i]), 1, done(false))
		}
	}
	for _, make := range []func() int{
		func() int { return k.NewView(api.ValVars, k.v[7]) },
		func() int { return k.NewCell() },
		func() int { return k.NewIter(through{}) },
		func() int { return k.NewFunc(1, "f", nil, nil) },
		func() int { return k.NewBound(k.v[0], k.v[0]) },
		func() int { return k.NewClass("C", store.Nothing) },
	} {
		a, b := make(), make()
		says(t, "P20.2: others", equal.Same(k.Store, a, b), 1, done(false))
		says(t, "P20.2: others, themselves", equal.Same(k.Store, a, a), 0, done(true))
	}
}

// TestP20_2Changed: which keys a has is fixed when the gathers are done, which
// b has is seen at each of them.
func TestP20_2Changed(t *testing.T) {
	k := built(t, both(1), both(1), num(8), num(9), set(0, 2, 3), set(1, 2, 3))
	x, y, eight, nine, a, b := k.v[0], k.v[1], k.v[2], k.v[3], k.v[4], k.v[5]
	m := equal.Same(k.Store, a, b)
	is(t, "P20.2", m.Step(many), askSame(y, x))
	k.take(b, nine, 9)
	m.Tell(eight)
	is(t, "P20.3: b was changed: the scan begins anew", m.Step(many), askSame(y, x))
	k.dict(a).Clear()
	m.Tell(eight)
	is(t, "P20.2: a's keys are those of the beginning", m.Step(many), done(false))
}

package equal_test

import (
	"fmt"
	"math"
	"testing"

	"lexicon/api"
	"lexicon/digest"
	"lexicon/equal"
	"lexicon/store"
	"lexicon/whole"
)

// through is a walk through nothing.
type through struct{}

func (through) Through() int { return store.Nothing }

func whole64(n int) int { return digest.Whole(whole.Of(n)) }

// TestP20_1Plain: what is plain has its hash by what it is.
func TestP20_1Plain(t *testing.T) {
	great := api.Int{Neg: true, Mag: []uint32{1, 2, 3, 4, 5}}
	loose := api.Int{Neg: true, Mag: []uint32{1, 2, 3, 4, 5, 0, 0}} // the same, not in its form
	k := built(t, none(), boolean(true), boolean(false), num(0), num(1), num(-1), num(-7), num(math.MaxInt), num(math.MinInt), str(""), str("a"), str("\u00f1"),
		api.Term{Kind: api.ValInt, Num: great}, api.Term{Kind: api.ValInt, Num: loose})
	native := k.NewNative(2, "len")
	for i, want := range []int{whole64(-7), 1, 0, 0, 1, -2, -7, whole64(math.MaxInt), whole64(math.MinInt), digest.Text(""), digest.Text("a"), digest.Text("\u00f1"), digest.Whole(great), digest.Whole(great)} {
		says(t, "P20.1: "+k.Tag(k.v[i]), equal.Hash(k.Store, k.v[i]), 1, hashed(want))
	}
	is(t, "P20.1: None", equal.Hash(k.Store, k.v[0]).Step(1).Hash, -7)
	says(t, "P20.1: a native", equal.Hash(k.Store, native), 1, hashed(digest.Text("len")))
}

// TestP20_1Objects: objects of which nobody says another thing have the hash
// of their number.
func TestP20_1Objects(t *testing.T) {
	k := built(t, tuple(), plain(), num(1))
	class := k.NewClass("A", store.Nothing)
	native := k.NewNative(1, "print")
	for what, v := range map[string]int{
		"an instance":            k.v[1],
		"an instance of a class": k.NewInstance(class),
		"an instance of names":   k.named([]string{"__init__", "__hash", "__ne__", "hash"}, []string{"eq"}),
		"a class":                class,
		"a class of a base":      k.NewClass("B", class),
		"a function":             k.NewFunc(0, "f", []int{k.v[0]}, nil),
		"a bound one":            k.NewBound(k.v[2], native),
	} {
		if k.Number(v) == 0 {
			t.Fatalf("%s has no number", what)
		}
		says(t, "P20.1: "+what, equal.Hash(k.Store, v), 1, hashed(digest.Number(k.Number(v))))
	}
	// A class that says something says it of its instances, not of itself.
	x := k.named([]string{"__hash__", "__eq__"})
	class = k.Get(x).(*store.Instance).Class
	says(t, "P20.1: a class that says both", equal.Hash(k.Store, class), 1, hashed(digest.Number(k.Number(class))))
}

// TestP20_1OwnNames: names of the instance itself are not its class's.
func TestP20_1OwnNames(t *testing.T) {
	k := built(t, plain(), num(3))
	space := k.Get(k.v[0]).(*store.Instance).Space
	space.Set("__hash__", k.v[1])
	space.Set("__eq__", k.v[1])
	says(t, "P20.1: own names", equal.Hash(k.Store, k.v[0]), 1, hashed(digest.Number(k.Number(k.v[0]))))
	says(t, "P20.2: own names", equal.Same(k.Store, k.v[0], k.v[1]), 1, done(false))
}

// TestP20_1Fails: what may be changed has none, and a class that says __eq__
// alone has taken it from its instances.
func TestP20_1Fails(t *testing.T) {
	k := built(t, num(1), list(), list(0), dict(), dict(0, 0), set(), set(0), keys(3), values(3), items(3), samer(), plain())
	for i, v := range k.v[1 : len(k.v)-1] {
		says(t, fmt.Sprint("P20.1: term ", i+1), equal.Hash(k.Store, v), 1, failed)
	}
	for what, v := range map[string]int{
		"vars of an instance": k.NewView(api.ValVars, k.v[11]),
		"a walk":              k.NewIter(through{}),
		"a cell":              k.NewCell(),
		"__eq__":              k.named([]string{"__eq__"}),
		"__eq__ of a base":    k.named(nil, []string{"__eq__"}),
		"and of its base":     k.named([]string{"x"}, nil, []string{"x", "__eq__"}),
	} {
		says(t, "P20.1: "+what, equal.Hash(k.Store, v), 1, failed)
	}
}

// TestP20_1Frozen: the hashes that the pairs keep, whatever those are.
func TestP20_1Frozen(t *testing.T) {
	k := built(t, num(1), str("a"), both(5), frozen(), frozen(0), frozen(0, 1, 2), frozen(2, 1, 0), frozen(0, 0, 0), list())
	a := digest.Text("a")
	for i, want := range map[int][]int{3: nil, 4: {1}, 5: {1, a, 5}, 6: {a, 5, 1}, 7: {1}} {
		says(t, fmt.Sprint("P20.1: frozen set ", i), equal.Hash(k.Store, k.v[i]), 1, hashed(digest.Frozen(want)))
	}
	k.put(k.v[4], k.v[8], 77, 0) // a list, which has no hash itself
	says(t, "P20.1: kept hashes", equal.Hash(k.Store, k.v[4]), 1, hashed(digest.Frozen([]int{1, 77})))
	k.take(k.v[4], k.v[0], 1)
	says(t, "P20.1: one is gone", equal.Hash(k.Store, k.v[4]), 1, hashed(digest.Frozen([]int{77})))
}

func TestP20_1Tuples(t *testing.T) {
	k := built(t, num(1), str("a"), tuple(), tuple(0), tuple(0, 1), tuple(1, 0), tuple(2, 4, 2), tuple(6, 0, 6), tuple(0, 0))
	a := digest.Text("a")
	empty, pair := digest.Tuple(nil), digest.Tuple([]int{1, a})
	nested := digest.Tuple([]int{empty, pair, empty})
	for _, x := range []struct{ term, turns, want int }{
		{2, 1, empty},
		{3, 2, digest.Tuple([]int{1})},
		{4, 3, pair},
		{5, 3, digest.Tuple([]int{a, 1})},
		{6, 6, nested},
		{7, 14, digest.Tuple([]int{nested, 1, nested})},
		{8, 3, digest.Tuple([]int{1, 1})},
	} {
		says(t, fmt.Sprint("P20.1: tuple ", x.term), equal.Hash(k.Store, k.v[x.term]), x.turns, hashed(x.want))
	}
}

// TestP20_1TuplesFail: a tuple has no hash, if one of its values has none; the
// ones behind that are not looked at.
func TestP20_1TuplesFail(t *testing.T) {
	k := built(t, num(1), list(0), samer(), tuple(1, 0, 0), tuple(0, 1, 0), tuple(0, 0, 1), tuple(2, 0, 0), tuple(0, 2, 0), tuple(0, 0, 2),
		tuple(0, 4), tuple(4, 0), set(), tuple(11), tuple(9, 10))
	for i, turns := range map[int]int{3: 2, 4: 3, 5: 4, 6: 2, 7: 3, 8: 4, 9: 5, 10: 4, 12: 2, 13: 6} {
		says(t, fmt.Sprint("P20.1: tuple ", i), equal.Hash(k.Store, k.v[i]), turns, failed)
	}
}

// TestP20_1TuplesAsk: instances in tuples are asked in order.
func TestP20_1TuplesAsk(t *testing.T) {
	k := built(t, num(3), both(1), hasher(2), tuple(1, 0, 0), tuple(0, 1, 0), tuple(0, 0, 1), tuple(1, 2, 1), tuple(4, 2), list(), tuple(1, 8))
	x, y, seven := k.v[1], k.v[2], k.NewInt(whole.Of(7))
	for i, want := range map[int][]int{3: {7, 3, 3}, 4: {3, 7, 3}, 5: {3, 3, 7}} {
		says(t, fmt.Sprint("P20.1: tuple ", i), equal.Hash(k.Store, k.v[i]), 4, askHash(x), seven, hashed(digest.Tuple(want)))
	}
	says(t, "P20.1: thrice", equal.Hash(k.Store, k.v[6]), 4, askHash(x), seven, askHash(y), k.v[0], askHash(x), k.v[0], hashed(digest.Tuple([]int{7, 3, 3})))
	says(t, "P20.1: within", equal.Hash(k.Store, k.v[7]), 6, askHash(x), k.v[0], askHash(y), seven, hashed(digest.Tuple([]int{digest.Tuple([]int{3, 3, 3}), 7})))
	says(t, "P20.1: what is told is none", equal.Hash(k.Store, k.v[4]), 3, askHash(x), k.v[8], failed)
	says(t, "P20.1: a list behind", equal.Hash(k.Store, k.v[9]), 3, askHash(x), k.v[0], failed)
}

// TestP20_1Told: what __hash__ may answer.
func TestP20_1Told(t *testing.T) {
	great := api.Int{Mag: []uint32{9, 9, 9, 9}}
	k := built(t, both(1), hasher(1), num(5), num(-1), boolean(true), boolean(false), api.Term{Kind: api.ValInt, Num: great}, num(math.MinInt),
		str(""), str("5"), none(), list(), tuple(2), frozen(2), plain())
	for i, want := range map[int]api.Ask{
		2: hashed(5), 3: hashed(-2), 4: hashed(1), 5: hashed(0), 6: hashed(digest.Whole(great)), 7: hashed(whole64(math.MinInt)),
		8: failed, 9: failed, 10: failed, 11: failed, 12: failed, 13: failed, 14: failed, 0: failed, 1: failed,
	} {
		for _, x := range k.v[:2] {
			says(t, "P20.1: told "+k.Tag(k.v[i]), equal.Hash(k.Store, x), 1, askHash(x), k.v[i], want)
		}
	}
	// The Num of a Term is of those alone that Build lays.
	says(t, "P20.1: a native", equal.Hash(k.Store, k.v[0]), 1, askHash(k.v[0]), k.NewNative(1, "print"), failed)
}

// TestP20_1Classes: a class says it by itself, by its base, by its base's base.
func TestP20_1Classes(t *testing.T) {
	k := built(t, num(5))
	hash, same, other := []string{"__hash__"}, []string{"__eq__"}, []string{"__init__", "y"}
	for what, names := range map[string][][]string{
		"itself":                {hash},
		"itself, among others":  {{"a", "b", "__hash__", "c"}},
		"itself, and __eq__":    {{"__eq__", "__hash__"}},
		"its base":              {nil, hash},
		"its base's base":       {nil, nil, hash},
		"beside others":         {other, other, hash, other},
		"itself, __eq__ a base": {hash, same},
		"a base, __eq__ itself": {same, hash},
		"further ones":          {nil, same, nil, nil, hash, nil},
	} {
		x := k.named(names...)
		says(t, "P20.1: "+what, equal.Hash(k.Store, x), 1, askHash(x), k.v[0], hashed(5))
	}
	// A class that is made for a Term may be a base, too.
	y := k.builds(t, hasher(1))
	x := k.NewInstance(k.NewClass("D", k.Get(y).(*store.Instance).Class))
	says(t, "P20.1: of a Term's class", equal.Hash(k.Store, x), 1, askHash(x), k.v[0], hashed(5))
	// The name stands in the namespace, whatever it stands for; if it is taken out, it is not said any more.
	x = k.named(hash)
	d := k.Get(k.Get(x).(*store.Instance).Class).(*store.Class).Dict
	d.Clear()
	says(t, "P20.1: taken out", equal.Hash(k.Store, x), 1, hashed(digest.Number(k.Number(x))))
}

// builds is the value of one term more.
func (k kit) builds(t *testing.T, x api.Term) int {
	t.Helper()
	v, e := k.Build([]api.Term{x})
	if e != api.OK {
		t.Fatalf("Build: %d", e)
	}
	return v[0]
}

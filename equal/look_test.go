package equal_test

import (
	"fmt"
	"math"
	"testing"

	"lexicon/api"
	"lexicon/equal"
	"lexicon/meter"
	"lexicon/store"
)

// parts is the tags of a dict's, a set's parts.
func (k kit) parts(v int) string {
	text := ""
	for _, part := range k.Parts(v) {
		text += k.Tag(part) + " "
	}
	return text
}

// TestP20_3Goals: each goal, where the key is there and where it is not.
func TestP20_3Goals(t *testing.T) {
	k := built(t, num(1), num(2), num(3), str("v"), boolean(true), dict(0, 2, 3, 3))
	one, two, three, v, yes, d := k.v[0], k.v[1], k.v[2], k.v[3], k.v[4], k.v[5]
	look := func(goal, key, value int) api.Ask {
		m := equal.Look(k.Store, d, goal, key, value)
		ask := m.Step(1)
		is(t, "P20.5: turns", m.Turns(), 1)
		return ask
	}
	version := k.dict(d).Version()
	for i, x := range []struct {
		goal, key, value int
		want             api.Ask
		parts            string
		changes          int
	}{
		{api.GoalGet, one, 0, found(three), "1 3 'v' 'v' ", 0},
		{api.GoalGet, yes, v, found(three), "1 3 'v' 'v' ", 0},
		{api.GoalGet, two, v, missed(0), "1 3 'v' 'v' ", 0},
		{api.GoalKeep, yes, two, found(three), "1 3 'v' 'v' ", 0},
		{api.GoalPut, yes, two, found(three), "1 2 'v' 'v' ", 1}, // the key stays
		{api.GoalPut, two, one, missed(one), "1 2 'v' 'v' 2 1 ", 1},
		{api.GoalDelete, three, 0, missed(0), "1 2 'v' 'v' 2 1 ", 0},
		{api.GoalDelete, one, v, found(two), "'v' 'v' 2 1 ", 1},
		{api.GoalKeep, one, yes, missed(yes), "'v' 'v' 2 1 1 True ", 1},
		{api.GoalDelete, v, 0, found(v), "2 1 1 True ", 1},
	} {
		is(t, fmt.Sprint("P20.3: goal ", i), look(x.goal, x.key, x.value), x.want)
		version += x.changes
		is(t, fmt.Sprint("P20.3: behind goal ", i), []any{k.parts(d), k.dict(d).Version()}, []any{x.parts, version})
	}
}

// TestP20_3Sets: a set's value may be 0.
func TestP20_3Sets(t *testing.T) {
	for _, make := range []func(...int) api.Term{set, frozen} {
		k := built(t, num(1), num(2), make(0), list())
		look := func(goal, key int) api.Ask { return equal.Look(k.Store, k.v[2], goal, k.v[key], 0).Step(9) }
		is(t, "P20.5: get", []api.Ask{look(api.GoalGet, 0), look(api.GoalGet, 1)}, []api.Ask{found(0), missed(0)})
		is(t, "P20.5: put", []api.Ask{look(api.GoalPut, 1), look(api.GoalPut, 1), look(api.GoalPut, 0)}, []api.Ask{missed(0), found(0), found(0)})
		is(t, "P20.5: put", k.parts(k.v[2]), "1 2 ")
		is(t, "P20.5: keep", []api.Ask{look(api.GoalKeep, 0), look(api.GoalDelete, 0), look(api.GoalKeep, 0)}, []api.Ask{found(0), found(0), missed(0)})
		is(t, "P20.5: keep", k.parts(k.v[2]), "2 1 ")
		is(t, "P20.5: no hash", look(api.GoalGet, 3), failed)
	}
}

// TestP20_3Fresh: a put into a dictionary without a pair asks for the hash alone.
func TestP20_3Fresh(t *testing.T) {
	k := built(t, both(1), num(7), dict(), set(), tuple(0, 0))
	x, seven := k.v[0], k.v[1]
	says(t, "P20.3: a dict", equal.Look(k.Store, k.v[2], api.GoalPut, x, seven), 1, askHash(x), seven, missed(seven))
	says(t, "P20.3: its own key", equal.Look(k.Store, k.v[2], api.GoalPut, x, x), 1, askHash(x), seven, found(seven))
	says(t, "P20.3: another hash", equal.Look(k.Store, k.v[2], api.GoalGet, x, 0), 1, askHash(x), k.NewBool(true), missed(0))
	says(t, "P20.3: a set", equal.Look(k.Store, k.v[3], api.GoalPut, x, 0), 1, askHash(x), seven, missed(0))
	says(t, "P20.3: a tuple", equal.Look(k.Store, k.v[3], api.GoalPut, k.v[4], 0), 3, askHash(x), seven, askHash(x), seven, missed(0))
	is(t, "P20.3", k.dict(k.v[2]).Pairs()[0].Hash, 7)
}

// TestP20_3Full: a key more than there may be.
func TestP20_3Full(t *testing.T) {
	k := builtOf(t, 2, both(1), both(1), both(1), num(1), num(0), dict(0, 3, 1, 4), set(0, 1), num(9), dict(3, 3))
	x, y, z, one, nought := k.v[0], k.v[1], k.v[2], k.v[3], k.v[4]
	for _, goal := range []int{api.GoalPut, api.GoalKeep} {
		for _, d := range k.v[5:7] {
			m := equal.Look(k.Store, d, goal, z, one)
			says(t, "P20.3: full", m, 3, askHash(z), one, askSame(x, z), nought, askSame(y, z), nought, full)
			is(t, "P20.7: it has ended", []any{m.Step(0), m.Step(9), m.Tell(one)}, []any{full, full, api.ErrState})
			is(t, "P20.3: nothing has changed", len(k.dict(d).Pairs()), 2)
			says(t, "P20.3: another hash", equal.Look(k.Store, d, goal, k.v[7], one), 1, full)
		}
	}
	says(t, "P20.3: over a key that is there", equal.Look(k.Store, k.v[5], api.GoalPut, z, z), 3, askHash(z), one, askSame(x, z), nought, askSame(y, z), one, found(nought))
	says(t, "P20.3: that may be looked for", equal.Look(k.Store, k.v[5], api.GoalGet, k.v[7], 0), 1, missed(0))
	says(t, "P20.3: room", equal.Look(k.Store, k.v[8], api.GoalPut, k.v[7], one), 1, missed(one))
	says(t, "P20.3: no room", equal.Look(k.Store, k.v[8], api.GoalPut, nought, one), 1, full)
	k = builtOf(t, 0, num(1), dict())
	says(t, "P20.3: no pair at all", equal.Look(k.Store, k.v[1], api.GoalPut, k.v[0], k.v[0]), 1, full)
}

// TestP20_3Asks: two keys of one hash, with a yes at the first, at the second,
// at neither.
func TestP20_3Asks(t *testing.T) {
	for _, goal := range []int{api.GoalGet, api.GoalPut, api.GoalDelete, api.GoalKeep} {
		k := built(t, both(1), both(1), num(1), none(), str("p"), str("q"), both(0))
		x, y, one, no, z := k.v[0], k.v[1], k.v[2], k.v[3], k.v[6]
		fresh := func() int {
			d := k.NewDict()
			k.put(d, x, 1, k.v[4])
			k.put(d, k.v[5], 3, one)
			k.put(d, y, 1, k.v[5])
			return d
		}
		look := func() *equal.Machine { return equal.Look(k.Store, fresh(), goal, z, one) }
		says(t, "P20.3: the first", look(), 2, askHash(z), one, askSame(x, z), one, found(k.v[4]))
		says(t, "P20.3: the second", look(), 3, askHash(z), one, askSame(x, z), no, askSame(y, z), one, found(k.v[5]))
		miss := missed(0)
		if goal == api.GoalPut || goal == api.GoalKeep {
			miss = missed(one)
		}
		says(t, "P20.3: neither", look(), 3, askHash(z), one, askSame(x, z), no, askSame(y, z), no, miss)
		says(t, "P20.3: another hash", look(), 1, askHash(z), k.NewBool(false), miss)
	}
}

// TestP20_3Stored: the stored key is compared with the sought one, in that order.
func TestP20_3Stored(t *testing.T) {
	k := built(t, both(1), samer(), num(1), num(0), tuple(2, 0), tuple(2, 1), hasher(1), dict())
	x, y, one, d := k.v[0], k.v[1], k.v[2], k.v[7]
	k.put(d, x, 1, one)
	says(t, "P20.3: an instance is stored", equal.Look(k.Store, d, api.GoalGet, one, 0), 2, askSame(x, one), one, found(one))
	says(t, "P20.3: the sought one says nothing", equal.Look(k.Store, d, api.GoalGet, k.v[6], 0), 2, askHash(k.v[6]), one, askSame(x, k.v[6]), one, found(one))
	k.dict(d).Clear()
	k.put(d, one, 1, one)
	says(t, "P20.3: an instance is sought", equal.Look(k.Store, d, api.GoalGet, x, 0), 2, askHash(x), one, askSame(x, one), one, found(one))
	k.put(d, k.v[4], 5, one)
	m := equal.Look(k.Store, d, api.GoalGet, k.v[5], 0)
	says(t, "P20.3: an instance without a hash is sought", m, 3, failed)
	z := k.NewTuple([]int{one, k.v[6]})
	m = equal.Look(k.Store, d, api.GoalGet, z, 0)
	says(t, "P20.1", m, 3, askHash(k.v[6]), one, missed(0))
	k.dict(d).Clear()
	h := equal.Hash(k.Store, k.NewTuple([]int{one, one})).Step(9).Hash
	k.put(d, k.NewTuple([]int{one, y}), h, k.v[4])
	says(t, "P20.3: within tuples", equal.Look(k.Store, d, api.GoalGet, z, 0), 5, askHash(k.v[6]), one, askSame(y, k.v[6]), one, found(k.v[4]))
}

// TestP20_3Anew: who is asked may change the dictionary.
func TestP20_3Anew(t *testing.T) {
	k := built(t, both(7), both(7), both(7), both(7), num(7), num(0), dict(0, 5, 1, 5, 2, 4))
	a, b, c, z, seven, no, d := k.v[0], k.v[1], k.v[2], k.v[3], k.v[4], k.v[5], k.v[6]
	m := equal.Look(k.Store, d, api.GoalGet, z, 0)
	m.Step(many)
	m.Tell(seven)
	is(t, "P20.3", m.Step(many), askSame(a, z))
	k.take(d, c, 7)
	m.Tell(seven)
	is(t, "P20.3: what was told is forgotten", m.Step(many), askSame(a, z))
	m.Tell(no)
	is(t, "P20.3", m.Step(many), askSame(b, z))
	k.put(d, z, 7, seven)
	k.take(d, a, 7)
	m.Tell(no)
	is(t, "P20.3", m.Step(many), askSame(b, z))
	m.Tell(no)
	is(t, "P20.3: its own key", []any{m.Step(many), m.Turns()}, []any{found(seven), 5})
}

// TestP20_4Numbers: a set is made, then a tuple for each pair, in order.
func TestP20_4Numbers(t *testing.T) {
	k := built(t, num(1), num(2), both(3), dict(0, 2, 1, 0, 2, 1), items(3), frozen(), list())
	x, one := k.v[2], k.v[0]
	last, live := k.Number(k.v[6]), k.Live()
	m := equal.Same(k.Store, k.v[4], k.v[5])
	is(t, "P20.4: ahead of the first turn", []any{m.Step(0), k.Live() - live}, []any{more, 0})
	is(t, "P20.4: the set and the first tuple", []any{m.Step(1), k.Live() - live}, []any{more, 2})
	is(t, "P20.4: its second value", []any{m.Step(2), k.Live() - live}, []any{more, 2})
	is(t, "P20.4", []any{m.Step(9), k.Live() - live}, []any{askHash(x), 2})
	other := k.NewList(nil)
	is(t, "P20.4: numbers", k.Number(other), last+3)
	m.Tell(one)
	is(t, "P20.4: the other tuples", []any{m.Step(9), k.Live() - live}, []any{askHash(x), 5}) // as the third one's key
	m.Tell(one)
	is(t, "P20.4", []any{m.Step(9), k.Live() - live}, []any{done(false), 5})
	is(t, "P20.4: numbers", []int{k.Number(k.NewList(nil)), m.Turns()}, []int{last + 6, 10})
	made := map[int]string{}
	for v := range 100 {
		if n := k.Number(v); n > last && n < last+6 {
			made[n-last] = fmt.Sprint(k.Kind(v), " ", k.parts(v))
		}
	}
	is(t, "P20.4: what was made", made, map[int]string{1: "9 " + k.parts(k.byNumber(last+1)), 2: "5 1 " + k.Tag(x) + " ", 3: "6 ", 4: "5 2 1 ", 5: "5 " + k.Tag(x) + " 2 "})
	is(t, "P20.4: the set", k.parts(k.byNumber(last+1)), fmt.Sprintf("#%d #%d #%d ", last+2, last+4, last+5))
	is(t, "P20.4: its values", k.dict(k.byNumber(last + 1)).Pairs()[2].Value, 0)
	is(t, "P20.4: they can be swept", []int{k.Sweep(k.v), k.Live()}, []int{6, live})
}

// byNumber is the object of a number.
func (k kit) byNumber(n int) int {
	for v := range 10000 {
		if k.Number(v) == n {
			return v
		}
	}
	return store.Nothing
}

// TestP20_4Both: of two items views each makes its own, a first.
func TestP20_4Both(t *testing.T) {
	k := built(t, num(1), num(2), dict(0, 1, 1, 1), dict(1, 1), items(2), items(3), items(2))
	last, live := k.Number(k.v[6]), k.Live()
	says(t, "P20.4", equal.Same(k.Store, k.v[4], k.v[5]), 1+6+3, done(false))
	is(t, "P20.4: made", k.Live()-live, 5)
	for i, want := range []string{"9 ", "5 1 2 ", "5 2 2 ", "9 ", "5 2 2 "} {
		v := k.byNumber(last + 1 + i)
		if got := fmt.Sprint(k.Kind(v), " ", k.parts(v)); got[:2] != want[:2] || want[0] == '5' && got != want {
			t.Errorf("P20.4: number %d: %s, want %s", last+1+i, got, want)
		}
	}
	says(t, "P20.4: of one dict", equal.Same(k.Store, k.v[4], k.v[6]), 1+6+6+2, done(true))
	is(t, "P20.4: made", k.Live()-live, 11)
	says(t, "P20.4: itself is alike", equal.Same(k.Store, k.v[4], k.v[4]), 0, done(true))
	is(t, "P20.4: made", k.Live()-live, 11)
}

// TestP20_4Now: pairs are those that there are when the gather begins.
func TestP20_4Now(t *testing.T) {
	k := built(t, both(3), num(3), num(0), dict(0, 1, 1, 1), items(3), frozen(), str("new"))
	x, three, no, d := k.v[0], k.v[1], k.v[2], k.v[3]
	m := equal.Same(k.Store, k.v[4], k.v[5])
	is(t, "P20.4", m.Step(many), askHash(x))
	k.put(d, three, 3, k.v[6])
	k.put(d, no, 0, no)
	k.take(d, x, 3)
	m.Tell(three)
	is(t, "P20.4: the hashes are one, so the keys are compared", m.Step(many), askSame(x, three))
	m.Tell(three)
	is(t, "P20.4: the set has one tuple", []any{m.Step(many), m.Turns()}, []any{done(false), 9})
	set := k.byNumber(k.Number(k.v[5]) + 1)
	is(t, "P20.4: the first tuple stays", []int{len(k.Parts(set)), len(k.Parts(k.Parts(set)[0]))}, []int{1, 2})
	is(t, "P20.4: the first tuple stays", k.parts(k.Parts(set)[0]), k.Tag(x)+" 3 ")
}

// TestP20_4Less: the Len that is compared is that of what was gathered.
func TestP20_4Less(t *testing.T) {
	k := built(t, both(3), both(3), num(3), dict(0, 2, 1, 2), items(3), set(), num(1))
	x, y, three, one := k.v[0], k.v[1], k.v[2], k.v[6]
	tuple := k.NewTuple([]int{three, three})
	k.put(k.v[5], tuple, equal.Hash(k.Store, tuple).Step(9).Hash, 0)
	m := equal.Same(k.Store, k.v[4], k.v[5])
	// Two pairs of the dict are one tuple, as is told: so the set has one.
	says(t, "P20.2: Len behind the gathers", m, 1+3+3+2+2, askHash(x), three, askHash(y), three, askSame(x, y), one, askSame(x, three), one, done(true))
}

// TestP20_4Room: a set of so many tuples may be made as a dict of so many pairs.
func TestP20_4Room(t *testing.T) {
	k := builtOf(t, 2, num(1), num(2), dict(0, 0, 1, 1), items(2), items(2))
	says(t, "P20.4: room", equal.Same(k.Store, k.v[3], k.v[4]), 1+6+6+2, done(true))
}

// TestP20_5Has: whether a value is in another one.
func TestP20_5Has(t *testing.T) {
	k := built(t, num(1), num(2), boolean(true), str("a"), // 0 to 3
		tuple(), tuple(0), tuple(1, 0), tuple(1, 3), list(), list(0, 3), // 4 to 9
		dict(), dict(0, 1, 3, 3), set(), set(0, 3), frozen(), frozen(0, 3), // 10 to 15
		keys(10), keys(11), values(10), values(11), items(10), items(11), // 16 to 21
		tuple(0, 1), tuple(2, 1), tuple(3, 3), tuple(0, 0), tuple(1, 1), tuple(0, 1, 1)) // 22 to 27
	for _, x := range []struct {
		in, v, turns int
		yes          bool
	}{
		{4, 0, 0, false}, {5, 0, 0, true}, {5, 2, 0, true}, {5, 1, 1, false}, {6, 0, 1, true}, {6, 1, 0, true}, {6, 3, 2, false}, {7, 5, 2, false},
		{8, 0, 0, false}, {9, 0, 0, true}, {9, 2, 0, true}, {9, 3, 1, true}, {9, 1, 2, false},
		{10, 0, 1, false}, {11, 0, 1, true}, {11, 2, 1, true}, {11, 3, 1, true}, {11, 1, 1, false}, {11, 22, 3, false},
		{12, 0, 1, false}, {13, 0, 1, true}, {13, 2, 1, true}, {13, 1, 1, false}, {13, 4, 1, false},
		{14, 0, 1, false}, {15, 0, 1, true}, {15, 3, 1, true}, {15, 1, 1, false},
		{16, 0, 1, false}, {17, 0, 1, true}, {17, 2, 1, true}, {17, 3, 1, true}, {17, 1, 1, false},
		{18, 0, 0, false}, {19, 0, 2, false}, {19, 1, 0, true}, {19, 3, 1, true}, {19, 8, 2, false},
		{20, 22, 1, false}, {21, 22, 1, true}, {21, 23, 1, true}, {21, 24, 1, true}, // both of a pair alike
		{21, 25, 2, false}, {21, 26, 1, false}, // another value; no such key
		{21, 0, 0, false}, {21, 3, 0, false}, {21, 4, 0, false}, {21, 5, 0, false}, {21, 27, 0, false}, {21, 9, 0, false}, {21, 13, 0, false},
	} {
		says(t, fmt.Sprint("P20.5: Has ", x.in, ", ", x.v), equal.Has(k.Store, k.v[x.in], k.v[x.v]), x.turns, done(x.yes))
	}
}

// TestP20_5HasFails: what has no hash can't be looked for in a dictionary, nor
// as a pair's key; in rows and among values it can.
func TestP20_5HasFails(t *testing.T) {
	k := built(t, num(1), list(0), list(0), samer(), // 0 to 3
		tuple(1), list(1), dict(0, 1), dict(), set(0), frozen(), keys(6), keys(7), values(6), items(6), items(7), // 4 to 14
		tuple(1, 0), tuple(3, 0), tuple(0, 2), tuple(0, 3)) // 15 to 18
	for _, in := range []int{6, 7, 8, 9, 10, 11} {
		for _, v := range []int{1, 2, 3} {
			says(t, "P20.5: no hash", equal.Has(k.Store, k.v[in], k.v[v]), 1, failed)
		}
	}
	for _, v := range []int{15, 16} {
		says(t, "P20.5: a key without a hash", equal.Has(k.Store, k.v[13], k.v[v]), 1, failed)
		says(t, "P20.5: a key without a hash", equal.Has(k.Store, k.v[14], k.v[v]), 1, failed)
	}
	for _, in := range []int{4, 5, 12} {
		says(t, "P20.5: a list", equal.Has(k.Store, k.v[in], k.v[1]), 0, done(true))
		says(t, "P20.5: a list like it", equal.Has(k.Store, k.v[in], k.v[2]), 1, done(true))
	}
	says(t, "P20.5: a list as a value", equal.Has(k.Store, k.v[13], k.v[17]), 2, done(true))
	says(t, "P20.5: an instance as a value", equal.Has(k.Store, k.v[13], k.v[18]), 2, askSame(k.v[3], k.v[1]), k.v[0], done(true))
}

// TestP20_5HasAsks: what is there is a, what is looked for b.
func TestP20_5HasAsks(t *testing.T) {
	k := built(t, both(1), both(1), num(1), none(), num(5), // 0 to 4
		tuple(2, 0, 4), list(0, 2), dict(0, 4), values(7), items(7), keys(7), set(0), frozen(0), tuple(1, 4), tuple(1, 1), dict(4, 0), items(15), tuple(4, 1)) // 5 to 17
	x, y, one, no := k.v[0], k.v[1], k.v[2], k.v[3]
	has := func(in, v int) *equal.Machine { return equal.Has(k.Store, k.v[in], k.v[v]) }
	says(t, "P20.5: a tuple", has(5, 1), 2, askSame(y, one), no, askSame(x, y), one, done(true))
	says(t, "P20.5: a tuple, no", has(5, 1), 3, askSame(y, one), no, askSame(x, y), no, askSame(y, k.v[4]), no, done(false))
	says(t, "P20.5: a tuple, itself", has(5, 0), 1, askSame(x, one), no, done(true))
	says(t, "P20.5: a list", has(6, 1), 1, askSame(x, y), one, done(true))
	for _, in := range []int{7, 10, 11, 12} {
		says(t, "P20.5: a dictionary", has(in, 1), 2, askHash(y), one, askSame(x, y), one, done(true))
		says(t, "P20.5: a dictionary", has(in, 1), 2, askHash(y), one, askSame(x, y), no, done(false))
		says(t, "P20.5: a dictionary, another hash", has(in, 1), 1, askHash(y), k.v[4], done(false))
		says(t, "P20.5: a dictionary, no hash", has(in, 1), 1, askHash(y), no, failed)
	}
	says(t, "P20.5: values", has(8, 1), 1, askSame(y, k.v[4]), one, done(true))
	says(t, "P20.5: items", has(9, 13), 2, askHash(y), one, askSame(x, y), one, done(true))
	says(t, "P20.5: items, its value", has(9, 14), 3, askHash(y), one, askSame(x, y), one, askSame(y, k.v[4]), no, done(false))
	says(t, "P20.5: items, its key", has(9, 14), 2, askHash(y), one, askSame(x, y), no, done(false))
	says(t, "P20.5: items, the value found is a", has(16, 17), 2, askSame(x, y), one, done(true))
}

// TestP20_5HasNow: rows are looked at as they are, a dict's values as they were.
func TestP20_5HasNow(t *testing.T) {
	k := built(t, both(1), num(1), none(), str("s"), list(0, 3), dict(1, 0, 2, 3), values(5), items(5), tuple(1, 3))
	x, one, no, s, row, d := k.v[0], k.v[1], k.v[2], k.v[3], k.v[4], k.v[5]
	m := equal.Has(k.Store, row, s)
	is(t, "P20.5", m.Step(many), askSame(x, s))
	k.list(row).Values = []int{one, one, x}
	m.Tell(no)
	is(t, "P20.5: the row of now", m.Step(many), askSame(x, s))
	k.list(row).Values = append(k.list(row).Values, s)
	m.Tell(no)
	is(t, "P20.5: a value more", []any{m.Step(many), m.Turns()}, []any{done(true), 3})
	m = equal.Has(k.Store, row, s)
	m.Step(many)
	k.list(row).Values = nil
	m.Tell(no)
	is(t, "P20.5: no value any more", m.Step(many), done(false))

	m = equal.Has(k.Store, k.v[6], s)
	is(t, "P20.5", m.Step(many), askSame(x, s))
	k.put(d, no, whole64(-7), x)
	k.put(d, s, 1, x)
	m.Tell(no)
	is(t, "P20.5: the values of the beginning", m.Step(many), done(true))
	m = equal.Has(k.Store, k.v[6], one)
	k.dict(d).Clear()
	is(t, "P20.5: it begins with the first Step", m.Step(many), done(false))
}

// TestP20_5Made: nothing is made by a Machine but by a gather.
func TestP20_5Made(t *testing.T) {
	k := built(t, num(1), tuple(0, 0), dict(0, 0), items(2), values(2), set(0), frozen(0))
	live := k.Live()
	equal.Hash(k.Store, k.v[1]).Step(many)
	equal.Hash(k.Store, k.v[6]).Step(many)
	equal.Same(k.Store, k.v[5], k.v[6]).Step(many)
	equal.Same(k.Store, k.v[2], k.v[1]).Step(many)
	equal.Same(k.Store, k.v[3], k.v[4]).Step(many)
	equal.Look(k.Store, k.v[2], api.GoalGet, k.v[1], 0).Step(many)
	for _, in := range k.v[1:] {
		equal.Has(k.Store, in, k.v[1]).Step(many)
	}
	is(t, "P20.5: Live", k.Live(), live)
}

func TestP20_6Nil(t *testing.T) {
	k := built(t, num(1), str("a"), dict(0, 0), set(0), frozen(0), tuple(0), list(0), keys(2), values(2), items(2), plain(), none(), boolean(true))
	others := []int{k.NewView(api.ValVars, k.v[10]), k.NewClass("C", store.Nothing), k.NewFunc(0, "f", nil, nil), k.NewNative(1, "print"), k.NewBound(k.v[0], k.v[0]), k.NewIter(through{}), k.NewCell()}
	all := append([]int{}, k.v...)
	all = append(all, others...)
	one := k.v[0]
	isNil := func(what string, m *equal.Machine, want bool) {
		t.Helper()
		if (m == nil) != want {
			t.Errorf("P20.6: %s: nil is %t", what, m == nil)
		}
	}
	for _, wrong := range []int{-1, math.MinInt, math.MaxInt, 1000, 1 << 32} {
		isNil("Hash", equal.Hash(k.Store, wrong), true)
		isNil("Same, a", equal.Same(k.Store, wrong, one), true)
		isNil("Same, b", equal.Same(k.Store, one, wrong), true)
		isNil("Look, d", equal.Look(k.Store, wrong, api.GoalGet, one, one), true)
		isNil("Look, key", equal.Look(k.Store, k.v[2], api.GoalGet, wrong, one), true)
		isNil("Look, value", equal.Look(k.Store, k.v[2], api.GoalGet, one, wrong), false)
		isNil("Has, in", equal.Has(k.Store, wrong, one), true)
		isNil("Has, v", equal.Has(k.Store, k.v[2], wrong), true)
	}
	for _, v := range all {
		kind := k.Kind(v)
		isNil("Hash of each kind", equal.Hash(k.Store, v), false)
		isNil("Same of each kind", equal.Same(k.Store, v, one), false)
		isNil(fmt.Sprint("Look in the kind ", kind), equal.Look(k.Store, v, api.GoalGet, v, one), kind != api.ValDict && kind != api.ValSet && kind != api.ValFrozen)
		isIn := api.ValTuple <= kind && kind <= api.ValFrozen || kind == api.ValKeys || kind == api.ValValues || kind == api.ValItems
		isNil(fmt.Sprint("Has in the kind ", kind), equal.Has(k.Store, v, one), !isIn)
	}
	for goal := -3; goal < 10; goal++ {
		for _, d := range k.v[2:5] {
			isNil(fmt.Sprint("the goal ", goal), equal.Look(k.Store, d, goal, one, one), goal < api.GoalGet || goal > api.GoalKeep)
		}
	}
	isNil("the greatest goal", equal.Look(k.Store, k.v[2], math.MaxInt, one, one), true)
	var s *store.Store
	for _, v := range []int{0, 1, -1} {
		isNil("a nil Store", equal.Hash(s, v), true)
		isNil("a nil Store", equal.Same(s, v, v), true)
		isNil("a nil Store", equal.Look(s, v, api.GoalGet, v, v), true)
		isNil("a nil Store", equal.Has(s, v, v), true)
	}
	before := k.parts(k.v[2]) + k.parts(k.v[3]) + fmt.Sprint(k.Live())
	equal.Look(k.Store, k.v[2], 9, k.v[1], k.v[1])
	equal.Look(k.Store, k.v[3], api.GoalPut, k.v[1], 0)
	is(t, "P20.6: nothing is done ahead of a Step", k.parts(k.v[2])+k.parts(k.v[3])+fmt.Sprint(k.Live()), before)
	k.Sweep(nil)
	isNil("what was swept", equal.Hash(k.Store, k.v[5]), true)
}

// TestP20_7Turns: of most below 0, 0, 1, just the turns, one less, many.
func TestP20_7Turns(t *testing.T) {
	k := built(t, num(1), tuple(0, 0), tuple(1, 1, 0), list(), tuple(0, 3), both(1), tuple(0, 5, 0))
	hash := func(v int) *equal.Machine { return equal.Hash(k.Store, k.v[v]) }
	want := hash(2).Step(many) // eight turns
	for _, most := range []int{math.MinInt, -1, 0} {
		m := hash(2)
		for range 5 {
			is(t, "P20.7: no turn", []any{m.Step(most), m.Turns()}, []any{more, 0})
		}
		is(t, "P20.7: then all", []any{m.Step(8), m.Turns()}, []any{want, 8})
	}
	m := hash(2)
	is(t, "P20.7: one less", []any{m.Step(7), m.Turns()}, []any{more, 7})
	is(t, "P20.7: the last one", []any{m.Step(1), m.Turns()}, []any{want, 8})
	is(t, "P20.7: many", hash(2).Step(math.MaxInt), want)
	m = hash(2)
	for n := range 7 {
		is(t, "P20.7: one by one", []any{m.Step(1), m.Turns()}, []any{more, n + 1})
	}
	is(t, "P20.7: one by one", []any{m.Step(1), m.Turns()}, []any{want, 8})

	m = hash(4)
	is(t, "P20.7: a fail", []any{m.Step(2), m.Turns(), m.Step(1), m.Turns()}, []any{more, 2, failed, 3})
	m = hash(6)
	is(t, "P20.7: an ask", []any{m.Step(2), m.Turns(), m.Step(1), m.Turns()}, []any{more, 2, askHash(k.v[5]), 3})
	m.Tell(k.v[0])
	is(t, "P20.7: behind an ask", []any{m.Step(0), m.Turns(), m.Step(1).Kind, m.Turns()}, []any{more, 3, api.TurnDone, 4})
}

// TestP20_7Again: a Machine that waits, or has ended, tells the same again.
func TestP20_7Again(t *testing.T) {
	k := builtOf(t, 1, num(1), num(2), both(3), list(), dict(0, 0), tuple(2, 0))
	for what, m := range map[string]*equal.Machine{
		"Done, a hash": equal.Hash(k.Store, k.v[1]),
		"Done, yes":    equal.Same(k.Store, k.v[0], k.v[0]),
		"Done, no":     equal.Same(k.Store, k.v[0], k.v[1]),
		"Done, found":  equal.Look(k.Store, k.v[4], api.GoalGet, k.v[0], 0),
		"Done, has":    equal.Has(k.Store, k.v[4], k.v[1]),
		"Fail":         equal.Hash(k.Store, k.v[3]),
		"Full":         equal.Look(k.Store, k.v[4], api.GoalPut, k.v[1], 0),
		"Ask":          equal.Hash(k.Store, k.v[5]),
	} {
		first, turns := m.Step(many), m.Turns()
		if first.Kind == 0 || first.Kind == api.TurnMore {
			t.Errorf("P20.7: %s: %v", what, first)
		}
		for _, most := range []int{-1, 0, 1, many} {
			is(t, "P20.7: again: "+what, []any{m.Step(most), m.Turns()}, []any{first, turns})
		}
	}
	m := equal.Look(k.Store, k.v[4], api.GoalDelete, k.v[0], 0)
	first := m.Step(many)
	k.put(k.v[4], k.v[0], 1, k.v[1])
	is(t, "P20.7: it is not done again", []any{first, m.Step(many), len(k.Parts(k.v[4]))}, []any{found(k.v[0]), found(k.v[0]), 2})
}

func TestP20_8Tell(t *testing.T) {
	k := built(t, both(1), num(3), num(4), list(), tuple(1, 1, 0))
	x, three := k.v[0], k.v[1]
	m := equal.Hash(k.Store, k.v[4])
	is(t, "P20.8: ahead of the first Step", []api.Errno{m.Tell(three), m.Tell(-1)}, []api.Errno{api.ErrState, api.ErrState})
	is(t, "P20.8: where it stopped", []any{m.Step(2), m.Tell(three), m.Tell(1 << 40)}, []any{more, api.ErrState, api.ErrState})
	is(t, "P20.7", m.Step(2), askHash(x))
	for _, wrong := range []int{-1, math.MinInt, math.MaxInt, 9999} {
		is(t, "P20.8: of no value", []any{m.Tell(wrong), m.Step(1)}, []any{api.ErrArg, askHash(x)})
	}
	is(t, "P20.8: then of a value", m.Tell(three), api.OK)
	is(t, "P20.8: twice", []api.Errno{m.Tell(k.v[2]), m.Tell(three), m.Tell(-1)}, []api.Errno{api.ErrState, api.ErrState, api.ErrState})
	is(t, "P20.8: the first one holds", m.Step(0).Hash, equal.Hash(k.Store, k.NewTuple([]int{three, three, three})).Step(9).Hash)
	is(t, "P20.8: behind the end", []any{m.Tell(three), m.Tell(-1), m.Step(0).Kind}, []any{api.ErrState, api.ErrState, api.TurnDone})
	m = equal.Hash(k.Store, k.v[3])
	is(t, "P20.8: behind a fail", []any{m.Step(1), m.Tell(three), m.Tell(-1), m.Step(0)}, []any{failed, api.ErrState, api.ErrState, failed})
	m = equal.Hash(k.Store, x)
	m.Step(1)
	is(t, "P20.8: told just what fails", []any{m.Tell(k.v[3]), m.Step(0)}, []any{api.OK, failed})
}

func TestP20_8Nil(t *testing.T) {
	var m *equal.Machine
	for _, n := range []int{0, 1, -1, math.MaxInt, math.MinInt} {
		is(t, "P20.8: a nil Machine", []any{m.Step(n), m.Tell(n), m.Turns()}, []any{api.Ask{}, api.ErrArg, 0})
	}
	// Of a zero one nothing is said; it is as a nil one.
	zero := &equal.Machine{}
	is(t, "a zero Machine", []any{zero.Step(9), zero.Tell(0), zero.Turns()}, []any{api.Ask{}, api.ErrArg, 0})
}

// TestTwoMachines: several may be under way in one Store.
func TestTwoMachines(t *testing.T) {
	k := built(t, both(7), both(7), both(7), num(7), num(0), dict(0, 4))
	x, y, z, seven, no, d := k.v[0], k.v[1], k.v[2], k.v[3], k.v[4], k.v[5]
	a, b := equal.Look(k.Store, d, api.GoalPut, y, seven), equal.Look(k.Store, d, api.GoalPut, z, no)
	a.Step(9)
	b.Step(9)
	a.Tell(seven)
	b.Tell(seven)
	is(t, "both ask", []any{a.Step(9), b.Step(9)}, []any{askSame(x, y), askSame(x, z)})
	a.Tell(no)
	is(t, "the one", a.Step(9), missed(seven))
	b.Tell(no)
	is(t, "the other one begins anew", b.Step(9), askSame(x, z))
	b.Tell(no)
	is(t, "the other one", b.Step(9), askSame(y, z))
	b.Tell(seven)
	is(t, "the other one", []any{b.Step(9), k.parts(d)}, []any{found(seven), k.parts(d)})
	is(t, "the dict", k.parts(d), k.Tag(x)+" 0 "+k.Tag(y)+" 0 ")
}

// TestSwept: a Machine whose values are no more tells something, and ends.
func TestSwept(t *testing.T) {
	for round := range 6 {
		k := built(t, num(1), both(3), list(1, 0), list(0, 1), dict(1, 0), dict(0, 1), items(4), items(5), values(4), set(1, 0), keys(4), tuple(1, 1), tuple(0, 1))
		var machines []*equal.Machine
		for _, a := range k.v {
			machines = append(machines, equal.Hash(k.Store, a), equal.Look(k.Store, k.v[4], api.GoalPut, a, a), equal.Look(k.Store, k.v[9], api.GoalDelete, a, a))
			for _, b := range k.v {
				machines = append(machines, equal.Same(k.Store, a, b), equal.Has(k.Store, a, b))
			}
		}
		for _, m := range machines {
			m.Step(round)
		}
		k.Sweep(nil)
		told := []int{k.NewInt(api.Int{}), k.NewTuple(nil), k.NewDict(), k.NewBool(true)}
		for i, m := range machines {
			ask := m.Step(many)
			for n := 0; ask.Kind == api.TurnAsk && n < 50; n++ {
				m.Tell(told[(i+n)%len(told)])
				ask = m.Step(many)
			}
			if m != nil && (ask.Kind == 0 || ask.Kind == api.TurnMore) {
				t.Errorf("machine %d: %v", i, ask)
			}
		}
	}
}

// TestMeter: what a class of Build says is not looked for, so that nothing is
// counted but what the Dict's machines visit.
func TestMeter(t *testing.T) {
	count := &meter.Meter{}
	s, _ := store.New(api.Rules{Pairs: 5, Shared: 3}, count)
	v, _ := s.Build([]api.Term{plain(), both(3), num(1), dict(2, 0), list()})
	count.Take()
	equal.Hash(s, v[0]).Step(9)
	equal.Hash(s, v[1]).Step(9)
	equal.Same(s, v[0], v[1]).Step(9)
	equal.Same(s, v[4], v[0]).Step(9)
	is(t, "no cell", count.Take(), api.Counts{})
	equal.Has(s, v[3], v[2]).Step(9)
	is(t, "one cell", count.Take(), api.Counts{Cells: 1})
}

func TestExamplesOfChapter20(t *testing.T) {
	k := built(t, num(1), tuple(0, 0), tuple(0, 0), both(5), both(5), dict(3, 0), list(3), list(4), tuple(6), num(5), str("x"))
	m := equal.Same(k.Store, k.v[1], k.v[2])
	is(t, "first row", []any{m.Step(99), m.Turns()}, []any{done(true), 1})
	is(t, "second row", equal.Hash(k.Store, k.v[8]).Step(9), failed)
	m = equal.Look(k.Store, k.v[5], api.GoalGet, k.v[4], 0)
	is(t, "third row", []any{m.Step(9), m.Tell(k.v[0]), m.Step(9), m.Tell(k.v[0]), m.Step(9), m.Turns()}, []any{askHash(k.v[4]), api.OK, done(false), api.ErrState, done(false), 1})
	m = equal.Look(k.Store, k.v[5], api.GoalGet, k.v[4], 0)
	is(t, "fourth row", []any{m.Step(9), m.Tell(k.v[9]), m.Step(9), m.Tell(k.v[10]), m.Step(9), m.Turns()}, []any{askHash(k.v[4]), api.OK, askSame(k.v[3], k.v[4]), api.OK, found(k.v[0]), 2})
	m = equal.Same(k.Store, k.v[6], k.v[7])
	is(t, "fifth row", []any{m.Step(1), m.Step(9)}, []any{more, askSame(k.v[3], k.v[4])})
}

package bulk_test

import (
	"fmt"
	"testing"

	"lexicon/api"
	"lexicon/bulk"
	"lexicon/digest"
)

// asking is a kit where x says both, with the hash of 1: 0 is 1, 1 is x, 2 is a
// set of x, 3 a set of 1, 4 is true, 5 is 0, 6 is a dict of x, 7 a dict of 1, 8
// a frozen set of x, 9 a keys view of x, 10 a tuple of x, 11 a list of x.
func asking(t *testing.T) kit {
	return built(t, num(1), both(1), set(1), set(0), boolean(true), num(0), dict(1, 4), dict(0, 5), frozen(1), keys(6), tuple(1), list(1))
}

// asked is an op of two of its values, what is told, what it asks, and the end.
type asked struct {
	op, a, b int
	told     []int
	asks     [][]int
	ends     string
	turns    int
}

func allAsked() []asked {
	const yes, no = 4, 5
	same := func(a, b int) []int { return []int{api.AskSame, a, b} }
	hash := []int{api.AskHash, 1, -1}
	return []asked{
		{bulk.Or, 2, 3, []int{yes}, [][]int{same(1, 0)}, "8: #2", 3},
		{bulk.Or, 2, 3, []int{no}, [][]int{same(1, 0)}, "8: #2 1", 3},
		{bulk.Or, 3, 2, []int{yes}, [][]int{same(1, 0)}, "8: 1", 3}, // 1 says nothing: x is asked
		{bulk.Or, 3, 8, []int{no}, [][]int{same(1, 0)}, "8: 1 #2", 3},
		{bulk.Or, 8, 3, []int{no}, [][]int{same(1, 0)}, "9: #2 1", 3},
		{bulk.Or, 6, 7, []int{yes}, [][]int{same(1, 0)}, "7: #2 0", 3},
		{bulk.Or, 6, 7, []int{no}, [][]int{same(1, 0)}, "7: #2 True 1 0", 3},
		{bulk.Or, 7, 6, []int{yes}, [][]int{same(1, 0)}, "7: 1 True", 3},
		{bulk.And, 2, 3, []int{yes}, [][]int{same(1, 0)}, "8: #2", 2},
		{bulk.And, 2, 3, []int{no}, [][]int{same(1, 0)}, "8:", 2},
		{bulk.And, 3, 9, []int{yes}, [][]int{same(1, 0)}, "8: 1", 2},
		{bulk.And, 9, 3, []int{yes}, [][]int{same(1, 0)}, "8: #2", 2},
		{bulk.Sub, 2, 3, []int{yes}, [][]int{same(1, 0)}, "8:", 2},
		{bulk.Sub, 2, 3, []int{no}, [][]int{same(1, 0)}, "8: #2", 2},
		{bulk.Sub, 8, 3, []int{no}, [][]int{same(1, 0)}, "9: #2", 2},
		{bulk.Xor, 2, 3, []int{yes, yes}, [][]int{same(1, 0), same(1, 0)}, "8:", 4},
		{bulk.Xor, 2, 3, []int{yes, no}, [][]int{same(1, 0), same(1, 0)}, "8: 1", 4},
		{bulk.Xor, 2, 3, []int{no, yes}, [][]int{same(1, 0), same(1, 0)}, "8: #2", 4},
		{bulk.Xor, 2, 3, []int{no, no, no}, [][]int{same(1, 0), same(1, 0), same(1, 0)}, "8: #2 1", 5},
		{bulk.Xor, 3, 2, []int{no, no, yes}, [][]int{same(1, 0), same(1, 0), same(1, 0)}, "8: 1", 5},
		{bulk.Le, 2, 3, []int{yes}, [][]int{same(1, 0)}, "yes", 2},
		{bulk.Le, 2, 3, []int{no}, [][]int{same(1, 0)}, "no", 2},
		{bulk.Ge, 2, 3, []int{yes}, [][]int{same(1, 0)}, "yes", 2},
		{bulk.Ge, 2, 3, []int{no}, [][]int{same(1, 0)}, "no", 2},
		{bulk.Update, 2, 3, []int{yes}, [][]int{same(1, 0)}, "8: #2", 2},
		{bulk.Update, 2, 3, []int{no}, [][]int{same(1, 0)}, "8: #2 1", 2},
		{bulk.Update, 3, 9, []int{no}, [][]int{same(1, 0)}, "8: 1 #2", 2},
		{bulk.Update, 3, 10, []int{0, no}, [][]int{hash, same(1, 0)}, "8: 1 #2", 3},
		{bulk.Update, 3, 11, []int{no}, [][]int{hash}, "8: 1 #2", 2}, // another hash: nothing to compare
		{bulk.Update, 6, 7, []int{yes}, [][]int{same(1, 0)}, "7: #2 0", 2},
		{bulk.Update, 6, 7, []int{no}, [][]int{same(1, 0)}, "7: #2 True 1 0", 2},
		{bulk.Update, 2, 2, nil, nil, "8: #2", 1},
		{bulk.Gather, 0, 10, []int{0}, [][]int{hash}, "8: #2", 2},
		{bulk.Frozen, 0, 11, []int{0}, [][]int{hash}, "9: #2", 2},
		{bulk.Gather, 0, 9, nil, nil, "8: #2", 1},
		{bulk.Frozen, 0, 8, nil, nil, "9: #2", 1},
		{bulk.Extend, 11, 10, nil, nil, "6: #2 #2", 1},
	}
}

// TestP21_1Asks: elements that ask, with yes and no told.
func TestP21_1Asks(t *testing.T) {
	for _, c := range allAsked() {
		k := asking(t)
		what := fmt.Sprint("P21.1: op ", c.op, " of ", c.a, " and ", c.b, " told ", c.told)
		m := k.start(t, c.op, k.v[c.a], k.v[c.b])
		for i, ask := range c.asks {
			want := api.Ask{Kind: api.TurnAsk, What: ask[0], A: k.v[ask[1]]}
			if ask[2] >= 0 {
				want.B = k.v[ask[2]]
			}
			is(t, what, m.Step(many), want)
			is(t, what, m.Tell(k.v[c.told[i]]), api.OK)
		}
		ask := m.Step(many)
		got := fmt.Sprint(ask)
		switch {
		case c.op >= bulk.Lt:
			got = map[bool]string{true: "yes", false: "no"}[ask.Yes]
			is(t, what, ask, done(ask.Yes))
		case c.op <= bulk.Spread:
			got = k.parts(k.v[c.a])
			is(t, what, ask, ended(0))
		case ask == ended(ask.Value):
			got = k.parts(ask.Value)
		}
		is(t, what, []any{got, m.Turns()}, []any{c.ends, c.turns})
	}
}

// TestP21_1LtAsks: Lt and Gt ask like Le and Ge, behind the count.
func TestP21_1LtAsks(t *testing.T) {
	for _, told := range []bool{true, false} {
		k := built(t, num(1), both(1), num(2), set(1), frozen(2, 0))
		answer := k.NewBool(told)
		x := k.v[1]
		says(t, "P21.1: Lt", k.start(t, bulk.Lt, k.v[3], k.v[4]), 2, askSame(x, k.v[0]), answer, done(told))
		says(t, "P21.1: Gt", k.start(t, bulk.Gt, k.v[4], k.v[3]), 2, askSame(x, k.v[0]), answer, done(told))
		says(t, "P21.1: Lt", k.start(t, bulk.Lt, k.v[4], k.v[3]), 0, done(false))
		says(t, "P21.1: Gt", k.start(t, bulk.Gt, k.v[3], k.v[4]), 0, done(false))
	}
}

// TestP21_1SpreadAsks: a key that is found fails; it is looked for once more by
// the put.
func TestP21_1SpreadAsks(t *testing.T) {
	start := func() (kit, *bulk.Machine, api.Ask) {
		k := built(t, str("k"), both(1), num(7), dict(), dict(0, 2), boolean(true), boolean(false))
		k.put(k.v[3], k.v[1], digest.Text("k"), k.v[1])
		return k, k.start(t, bulk.Spread, k.v[3], k.v[4]), askSame(k.v[1], k.v[0])
	}
	k, m, ask := start()
	says(t, "P21.1: it is there", m, 2, ask, k.v[5], failed)
	is(t, "P21.1: it is there", k.parts(k.v[3]), "7: #2 #2")
	k, m, ask = start()
	says(t, "P21.1: it is not", m, 3, ask, k.v[6], ask, k.v[6], ended(0))
	is(t, "P21.1: it is not", k.parts(k.v[3]), "7: #2 #2 'k' 7")
	k, m, ask = start()
	says(t, "P21.1: it is, by then", m, 3, ask, k.v[6], ask, k.v[5], ended(0))
	is(t, "P21.1: it is, by then", k.parts(k.v[3]), "7: #2 7")
}

// TestP21_1Told: a hash must be a number; what is told of sameness is any value.
func TestP21_1Told(t *testing.T) {
	for _, b := range []int{2, 3} {
		for _, op := range []int{bulk.Update, bulk.Gather, bulk.Frozen} {
			k := built(t, num(5), hasher(1), tuple(0, 1, 0), list(0, 1, 0), set(), str("x"), none())
			for _, told := range []int{2, 3, 4, 5, 6} {
				into := k.NewSet(false)
				m := k.start(t, op, into, k.v[b])
				says(t, "P21.2: WhyType", m, 4, askHash(k.v[1]), k.v[told], failed)
				is(t, "P21.2: WhyType again", []any{m.Step(5), m.Tell(k.v[0]), m.Turns()}, []any{failed, api.ErrState, 4})
				if op == bulk.Update {
					is(t, "P21.1: what a has then", k.parts(into), "8: 5")
				}
			}
		}
	}
	k := asking(t)
	for _, v := range k.v {
		m := k.start(t, bulk.And, k.v[2], k.v[3])
		says(t, "P21.2: Truth", m, 2, askSame(k.v[1], k.v[0]), v)
		is(t, "P21.2: Truth", len(k.Parts(m.Step(9).Value)) == 1, k.Truth(v))
	}
	k = built(t, samer(), tuple(0), set())
	got, turns := k.comes(t, bulk.Update, k.v[2], k.v[1])
	is(t, "P21.1: one that says __eq__ alone", []any{got, turns}, []any{"fail", 2})
}

// TestP21_1Changed: who is asked changes what the row goes through, or looks
// in. x is not 1, whenever that is asked.
func TestP21_1Changed(t *testing.T) {
	clear := func(at int) func(kit, int) { return func(k kit, _ int) { k.dict(k.v[at]).Clear() } }
	lay := func(at, key int) func(kit, int) {
		return func(k kit, _ int) { k.put(k.v[at], k.v[key], k.Hash(k.v[key]), 0) }
	}
	const a, b = 5, 6 // x 2; 1 3
	for _, c := range []struct {
		what  string
		op    int
		by    func(k kit, result int) // done at the first ask
		asks  int
		ends  string
		turns int
	}{
		{"nothing", bulk.And, func(kit, int) {}, 1, "8:", 3},
		{"a is empty", bulk.And, clear(a), 1, "8:", 3},
		{"a is empty", bulk.Sub, clear(a), 1, "8: #2 2", 3}, // its elements are those that there were
		{"a has more", bulk.Sub, lay(a, 3), 1, "8: #2 2", 3},
		{"a has more", bulk.Le, lay(a, 3), 1, "no", 2},
		{"b is empty", bulk.And, clear(b), 1, "8:", 3},
		{"b is empty", bulk.Sub, clear(b), 1, "8: #2 2", 3},
		{"b has 2", bulk.And, lay(b, 2), 2, "8: 2", 4}, // it begins anew
		{"b has 2", bulk.Sub, lay(b, 2), 2, "8: #2", 4},
		{"nothing", bulk.Xor, func(kit, int) {}, 3, "8: #2 2 1 3", 7},
		{"a is empty", bulk.Xor, clear(a), 2, "8: #2 2 1 3", 6}, // 1 is compared in the result alone
		{"a has 3", bulk.Xor, lay(a, 3), 3, "8: #2 2 1", 7},
		{"b is empty", bulk.Xor, clear(b), 3, "8: #2 2 1 3", 7},
		{"nothing", bulk.Or, func(kit, int) {}, 1, "8: #2 2 1 3", 5},
		{"the result is empty", bulk.Or, func(k kit, result int) { k.dict(result).Clear() }, 1, "8: 1 3", 5},
		{"a is empty", bulk.Or, clear(a), 1, "8: #2 2 1 3", 5},
		{"b is empty", bulk.Or, clear(b), 1, "8: #2 2 1 3", 5},
		{"the result has x", bulk.Sub, func(k kit, result int) { k.put(result, k.v[1], k.Hash(k.v[0]), 0) }, 1, "8: #2 #2 2", 3},  // nobody looks
		{"the result has 1", bulk.Xor, func(k kit, result int) { k.put(result, k.v[0], k.Hash(k.v[0]), 0) }, 2, "8: 1 #2 2 3", 6}, // it is met ahead of x
		{"nothing", bulk.Update, func(kit, int) {}, 1, "8: #2 2 1 3", 3},
		{"a is empty", bulk.Update, clear(a), 1, "8: 1 3", 3},
		{"b is empty", bulk.Update, clear(b), 1, "8: #2 2 1 3", 3},
		{"a has 3", bulk.Update, lay(a, 3), 2, "8: #2 2 3 1", 4},
	} {
		k := built(t, num(1), both(1), num(2), num(3), boolean(false), set(1, 2), set(0, 3))
		result := k.Live() + 1
		what := fmt.Sprint("P21.1: op ", c.op, ", ", c.what)
		m := k.start(t, c.op, k.v[a], k.v[b])
		for i := range c.asks {
			is(t, what, m.Step(many), askSame(k.v[1], k.v[0]))
			if i == 0 {
				c.by(k, k.numbered(result))
			}
			m.Tell(k.v[4])
		}
		ask := m.Step(many)
		got := map[bool]string{true: "yes", false: "no"}[ask.Yes]
		switch c.op {
		case bulk.Update:
			got = k.parts(k.v[a])
		case bulk.Or, bulk.And, bulk.Sub, bulk.Xor:
			got = k.parts(ask.Value)
		}
		is(t, what, []any{got, m.Turns()}, []any{c.ends, c.turns})
	}
}

// TestP21_1KeysChanged: a keys view of a dict that is changed by who is asked.
func TestP21_1KeysChanged(t *testing.T) {
	start := func(op int, a, b int) (kit, *bulk.Machine) {
		k := built(t, num(1), both(1), num(2), dict(1, 0, 2, 0), keys(3), set(0, 2))
		m := k.start(t, op, k.v[a], k.v[b])
		is(t, "P21.1: a keys view", m.Step(many), askSame(k.v[1], k.v[0]))
		k.dict(k.v[3]).Clear()
		m.Tell(k.v[0])
		return k, m
	}
	k, m := start(bulk.And, 4, 5)
	is(t, "P21.1: And", []any{k.parts(m.Step(many).Value), m.Turns()}, []any{"8: #2 2", 3})
	k, m = start(bulk.And, 5, 4) // 1 is looked for anew, and 2 in what is empty
	is(t, "P21.1: And", []any{k.parts(m.Step(many).Value), m.Turns()}, []any{"8:", 3})
	_, m = start(bulk.Le, 4, 5)
	is(t, "P21.1: Le", []any{m.Step(many), m.Turns()}, []any{done(true), 3})
	k, m = start(bulk.Update, 5, 4)
	is(t, "P21.1: Update", []any{m.Step(many), k.parts(k.v[5]), m.Turns()}, []any{ended(0), "8: 1 2", 3})
}

// TestP21_1RowChanged: a list that is changed by who is asked.
func TestP21_1RowChanged(t *testing.T) {
	k := built(t, num(1), hasher(1), num(2), list(1, 0, 1), set())
	m := k.start(t, bulk.Update, k.v[4], k.v[3])
	is(t, "P21.1: Update by a list", m.Step(many), askHash(k.v[1]))
	k.list(k.v[3]).Values[1] = k.v[2]
	k.list(k.v[3]).Values = k.list(k.v[3]).Values[:1]
	m.Tell(k.v[2])
	says(t, "P21.1: Update by a list", m, 6, askHash(k.v[1]), k.v[2], ended(0))
	is(t, "P21.1: Update by a list", k.parts(k.v[4]), "8: #2 1")
}

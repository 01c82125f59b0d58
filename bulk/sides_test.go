package bulk_test

import (
	"fmt"
	"math/rand"
	"slices"
	"testing"

	"lexicon/api"
	"lexicon/bulk"
	"lexicon/equal"
)

// sidesOf are sides of ints, by short names.
func sidesOf(t *testing.T) (kit, map[string]int) {
	k := built(t, num(1), num(2), num(3), num(4), set(), set(0, 1, 2), frozen(1, 0), frozen(2, 3), dict(1, 0, 3, 0), keys(8), set(3), items(8), dict(), keys(12), items(12), tuple(1, 0), set(), frozen())
	k.put(k.v[16], k.v[15], equal.Hash(k.Store, k.v[15]).Step(many).Hash, 0)
	k.put(k.v[16], k.v[0], k.Hash(k.v[0]), 0)
	return k, map[string]int{
		"{}": k.v[4], "123": k.v[5], "f21": k.v[6], "f34": k.v[7], "k24": k.v[9], "4": k.v[10], "items": k.v[11],
		"k": k.v[13], "no items": k.v[14], "(21) 1": k.v[16], "f": k.v[17],
	}
}

// played is what should come of an op.
type played struct {
	op    int
	a, b  string
	want  string
	turns int
}

func playAll(t *testing.T, all []played) {
	t.Helper()
	for _, x := range all {
		k, side := sidesOf(t)
		got, turns := k.comes(t, x.op, side[x.a], side[x.b])
		if got != x.want || turns != x.turns {
			t.Errorf("P21.1: op %d of %s and %s: %s, %d turns; want %s, %d", x.op, x.a, x.b, got, turns, x.want, x.turns)
		}
	}
}

// TestP21_1Sides: what becomes of sides, in which order, of which kind, in so
// many turns.
func TestP21_1Sides(t *testing.T) {
	playAll(t, []played{
		{bulk.Or, "123", "f21", "8: 1 2 3", 5},
		{bulk.Or, "f21", "123", "9: 2 1 3", 5},
		{bulk.Or, "f21", "f34", "9: 2 1 3 4", 4},
		{bulk.Or, "123", "4", "8: 1 2 3 4", 4},
		{bulk.Or, "k24", "123", "8: 2 4 1 3", 5},
		{bulk.Or, "k24", "f34", "8: 2 4 3", 4},
		{bulk.Or, "f34", "k24", "9: 3 4 2", 4},
		{bulk.Or, "{}", "f21", "8: 2 1", 2},
		{bulk.Or, "f", "123", "9: 1 2 3", 3},
		{bulk.Or, "f21", "{}", "9: 2 1", 2},
		{bulk.Or, "{}", "{}", "8:", 0},
		{bulk.Or, "k", "f", "8:", 0},
		{bulk.Or, "123", "123", "8: 1 2 3", 6},
		{bulk.And, "123", "f21", "8: 1 2", 3},
		{bulk.And, "f21", "123", "9: 2 1", 2},
		{bulk.And, "k24", "123", "8: 2", 2},
		{bulk.And, "123", "k24", "8: 2", 3},
		{bulk.And, "f34", "k24", "9: 4", 2},
		{bulk.And, "{}", "123", "8:", 0},
		{bulk.And, "123", "{}", "8:", 3},
		{bulk.And, "123", "4", "8:", 3},
		{bulk.And, "123", "123", "8: 1 2 3", 3},
		{bulk.Sub, "123", "f21", "8: 3", 3},
		{bulk.Sub, "f21", "123", "9:", 2},
		{bulk.Sub, "f34", "k24", "9: 3", 2},
		{bulk.Sub, "k24", "f34", "8: 2", 2},
		{bulk.Sub, "{}", "123", "8:", 0},
		{bulk.Sub, "123", "{}", "8: 1 2 3", 3},
		{bulk.Sub, "123", "4", "8: 1 2 3", 3},
		{bulk.Sub, "123", "123", "8:", 3},
		{bulk.Xor, "123", "f21", "8: 3", 5},
		{bulk.Xor, "f21", "123", "9: 3", 5},
		{bulk.Xor, "f21", "f34", "9: 2 1 3 4", 4},
		{bulk.Xor, "k24", "123", "8: 4 1 3", 5},
		{bulk.Xor, "{}", "123", "8: 1 2 3", 3},
		{bulk.Xor, "123", "{}", "8: 1 2 3", 3},
		{bulk.Xor, "123", "123", "8:", 6},
		{bulk.Xor, "f", "{}", "9:", 0},
	})
}

// TestP21_1Within: fewer elements, as many, more.
func TestP21_1Within(t *testing.T) {
	all := []played{
		{bulk.Le, "123", "f21", "no", 0},
		{bulk.Le, "f21", "123", "yes", 2},
		{bulk.Le, "{}", "123", "yes", 0},
		{bulk.Le, "123", "{}", "no", 0},
		{bulk.Le, "{}", "f", "yes", 0},
		{bulk.Le, "123", "123", "yes", 3},
		{bulk.Le, "k24", "123", "no", 2},
		{bulk.Le, "4", "k24", "yes", 1},
		{bulk.Le, "f21", "f34", "no", 1},
		{bulk.Lt, "123", "123", "no", 0},
		{bulk.Lt, "123", "f21", "no", 0},
		{bulk.Lt, "f21", "123", "yes", 2},
		{bulk.Lt, "{}", "f", "no", 0},
		{bulk.Lt, "k", "4", "yes", 0},
		{bulk.Lt, "f34", "k24", "no", 0},
		{bulk.Lt, "4", "k24", "yes", 1},
		{bulk.Lt, "4", "f21", "no", 1},
	}
	for _, x := range all {
		all = append(all, played{x.op + 2, x.b, x.a, x.want, x.turns}) // Gt of Lt, Ge of Le
	}
	playAll(t, all)
}

// TestP21_1Items: items views are gathered first. A tuple of two ints takes
// three turns for its hash.
func TestP21_1Items(t *testing.T) {
	playAll(t, []played{
		{bulk.And, "items", "123", "8:", 8},
		{bulk.And, "123", "items", "8:", 9},
		{bulk.Sub, "123", "items", "8: 1 2 3", 9},
		{bulk.Or, "no items", "f21", "8: 2 1", 2},
		{bulk.Le, "items", "4", "no", 6},
		{bulk.Le, "items", "123", "no", 7},
		{bulk.Lt, "items", "items", "no", 12},
		{bulk.Le, "items", "items", "yes", 16},
		{bulk.Ge, "items", "(21) 1", "no", 9}, // the tuple is there (it is compared), 1 is not
		{bulk.Gt, "items", "4", "no", 7},
		{bulk.Le, "no items", "{}", "yes", 0},
		{bulk.Gather, "4", "items", "8: #17 #18", 8},
		{bulk.Frozen, "4", "no items", "9:", 0},
	})
}

// TestP21_1ItemsMade: what is made for an items view, and for the result behind
// that; nothing else is.
func TestP21_1ItemsMade(t *testing.T) {
	k, side := sidesOf(t)
	live := k.Live()
	m := k.start(t, bulk.Or, side["items"], side["items"])
	is(t, "P21.1: Step(0)", m.Step(0), more)
	is(t, "P21.1: the first tuple", k.Live(), live+2)
	is(t, "P21.1: gathered", m.Step(12), more)
	is(t, "P21.1: both, and the result", k.Live(), live+7)
	a := []int{k.numbered(live + 2), k.numbered(live + 3)}
	result := k.numbered(live + 7)
	is(t, "P21.1: Or", m.Step(many), ended(result))
	is(t, "P21.1: Or", m.Turns(), 18) // two copied, two put, and they are compared
	is(t, "P21.1: Or", k.Parts(result), a)
	is(t, "P21.1: Or", k.Kind(result), api.ValSet)

	k, side = sidesOf(t)
	m = k.start(t, bulk.And, side["items"], side["(21) 1"])
	result = m.Step(many).Value
	is(t, "P21.1: And", m.Turns(), 9)
	is(t, "P21.1: And has a's", k.Parts(result), []int{k.numbered(live + 2)})
	m = k.start(t, bulk.And, side["(21) 1"], side["items"])
	is(t, "P21.1: And has a's", k.Parts(m.Step(many).Value), []int{k.v[15]})

	k, side = sidesOf(t)
	k.start(t, bulk.Le, side["items"], side["items"]).Step(many)
	is(t, "P21.1: Le makes no result", k.Live(), live+6)
}

// TestP21_1Gathering: which one is gathered first, and one that has what can't
// be hashed.
func TestP21_1Gathering(t *testing.T) {
	terms := []api.Term{hasher(1), hasher(2), num(7), dict(2, 0), dict(2, 1), items(3), items(4)}
	for _, x := range []struct{ op, first int }{
		{bulk.Or, 0}, {bulk.And, 0}, {bulk.Sub, 0}, {bulk.Xor, 0}, {bulk.Lt, 0}, {bulk.Le, 0}, {bulk.Gt, 1}, {bulk.Ge, 1},
	} {
		k := built(t, terms...)
		m := k.start(t, x.op, k.v[5], k.v[6])
		is(t, fmt.Sprint("P21.1: op ", x.op, " gathers"), m.Step(many), askHash(k.v[x.first]))
		m.Tell(k.v[2])
		is(t, fmt.Sprint("P21.1: op ", x.op, " gathers then"), m.Step(many), askHash(k.v[1-x.first]))
		is(t, fmt.Sprint("P21.1: op ", x.op, ": turns"), m.Turns(), 6)
	}
	terms = []api.Term{num(1), list(), none(), set(0), dict(0, 1), items(4), set(), num(2), dict(0, 0, 7, 1), items(8)}
	for _, op := range ops {
		if op == bulk.Extend || op == bulk.Spread {
			continue
		}
		k := built(t, terms...)
		live := k.Live()
		made := 0
		if op == bulk.Gather || op == bulk.Frozen {
			made = 1 // ahead of it
		}
		got, turns := k.comes(t, op, k.v[3], k.v[5])
		is(t, fmt.Sprint("P21.1: op ", op, ": b can't be hashed"), []any{got, turns, k.Live() - live}, []any{"fail", 3, 2 + made})
		got, turns = k.comes(t, op, k.v[3], k.v[9])
		is(t, fmt.Sprint("P21.1: op ", op, ": its second pair"), []any{got, turns}, []any{"fail", 6})
		is(t, fmt.Sprint("P21.1: op ", op, ": a"), k.parts(k.v[3]), "8: 1")
		if op < bulk.Or {
			continue
		}
		got, turns = k.comes(t, op, k.v[5], k.v[6])
		is(t, fmt.Sprint("P21.1: op ", op, ": a can't be hashed"), []any{got, turns}, []any{"fail", 3})
		got, turns = k.comes(t, op, k.v[5], k.v[5])
		is(t, fmt.Sprint("P21.1: op ", op, ": both can't be hashed"), []any{got, turns}, []any{"fail", 3})
	}
}

// TestP21_1Result: the result's kind, number, hashes, version; and it is a new
// one.
func TestP21_1Result(t *testing.T) {
	for _, op := range []int{bulk.Or, bulk.And, bulk.Sub, bulk.Xor} {
		for _, a := range []string{"{}", "123", "f21", "f34", "k24", "items", "f", "no items"} {
			for _, b := range []string{"{}", "123", "f21", "f34", "k24", "items", "f", "no items"} {
				k, side := sidesOf(t)
				live := k.Live()
				result := k.start(t, op, side[a], side[b]).Step(many).Value
				want := api.ValSet
				if a[0] == 'f' {
					want = api.ValFrozen
				}
				what := fmt.Sprint("P21.1: op ", op, " of ", a, " and ", b)
				is(t, what+": kind", k.Kind(result), want)
				is(t, what+": number", k.Number(result), k.Live())
				if a != "items" && b != "items" {
					is(t, what+": one is made", k.Live(), live+gathers(a)+gathers(b)+1)
				}
				for _, p := range k.dict(result).Pairs() {
					h := equal.Hash(k.Store, p.Key).Step(many)
					is(t, what+": a pair", []int{p.Hash, p.Value}, []int{h.Hash, 0})
				}
			}
		}
	}
}

// gathers is how many objects are made for the gather of a view without pairs.
func gathers(name string) int {
	if name == "no items" {
		return 1
	}
	return 0
}

// TestP21_1Versions: how many changes are made to the result.
func TestP21_1Versions(t *testing.T) {
	for _, x := range []struct{ op, changes int }{{bulk.Or, 5}, {bulk.And, 2}, {bulk.Sub, 1}, {bulk.Xor, 1}} {
		k, side := sidesOf(t)
		a, b := k.dict(side["123"]).Version(), k.dict(side["f21"]).Version()
		result := k.start(t, x.op, side["123"], side["f21"]).Step(many).Value
		is(t, fmt.Sprint("P21.1: changes of op ", x.op), k.dict(result).Version(), x.changes)
		is(t, fmt.Sprint("P21.4: changes of op ", x.op), []int{k.dict(side["123"]).Version(), k.dict(side["f21"]).Version()}, []int{a, b})
	}
}

// ints is a side of ints, by chance: a set, a frozen set or a keys view.
func (k kit) ints(r *rand.Rand) (int, []int) {
	list := r.Perm(8)[:r.Intn(8)]
	if r.Intn(2) == 0 {
		list = r.Perm(4)[:r.Intn(4)]
	}
	v := k.NewSet(r.Intn(2) == 0)
	side := v
	if r.Intn(3) == 0 {
		v = k.NewDict()
		side = k.NewView(api.ValKeys, v)
	}
	for _, n := range list {
		k.put(v, k.v[n], k.Hash(k.v[n]), 0)
	}
	return side, list
}

// TestP21_3Ints: results hold what they should, in the order of a, those of b
// alone behind them; a and b are what they were.
func TestP21_3Ints(t *testing.T) {
	r := rand.New(rand.NewSource(21))
	for range 1500 {
		k := built(t, num(0), num(1), num(2), num(3), num(4), num(5), num(6), num(7))
		a, listA := k.ints(r)
		b, listB := k.ints(r)
		ahead := fmt.Sprint(k.parts(a), k.parts(b))
		both, alone, others := []int{}, []int{}, []int{}
		for _, n := range listA {
			if slices.Contains(listB, n) {
				both = append(both, k.v[n])
			} else {
				alone = append(alone, k.v[n])
			}
		}
		for _, n := range listB {
			if !slices.Contains(listA, n) {
				others = append(others, k.v[n])
			}
		}
		all := []int{}
		for _, n := range listA {
			all = append(all, k.v[n])
		}
		does := func(op, a, b int) api.Ask { return k.start(t, op, a, b).Step(many) }
		elements := func(op int) []int { return k.Parts(does(op, a, b).Value) }
		is(t, "P21.3: Or", elements(bulk.Or), append(all, others...))
		is(t, "P21.3: And", elements(bulk.And), both)
		is(t, "P21.3: Sub", elements(bulk.Sub), alone)
		is(t, "P21.3: Xor", elements(bulk.Xor), append(slices.Clone(alone), others...))
		is(t, "P21.3: Le", does(bulk.Le, a, b).Yes, len(alone) == 0)
		is(t, "P21.3: Ge", does(bulk.Ge, a, b).Yes, len(others) == 0)
		is(t, "P21.3: Lt", does(bulk.Lt, a, b).Yes, len(alone) == 0 && len(others) > 0)
		is(t, "P21.3: Gt", does(bulk.Gt, a, b).Yes, len(alone) > 0 && len(others) == 0)
		same := equal.Same(k.Store, a, b).Step(many).Yes
		is(t, "P21.3: Le and Ge", does(bulk.Le, a, b).Yes && does(bulk.Ge, a, b).Yes, same)
		again := does(bulk.Or, does(bulk.Sub, a, b).Value, does(bulk.And, a, b).Value).Value
		is(t, "P21.3: (a - b) | (a & b)", []any{len(k.Parts(again)), equal.Same(k.Store, again, k.start(t, bulk.Gather, a, a).Step(many).Value).Step(many).Yes}, []any{len(listA), true})
		is(t, "P21.4", fmt.Sprint(k.parts(a), k.parts(b)), ahead)
	}
}

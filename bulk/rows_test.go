package bulk_test

import (
	"fmt"
	"slices"
	"testing"

	"lexicon/api"
	"lexicon/bulk"
	"lexicon/digest"
	"lexicon/equal"
)

// happened is what should come of an op of two terms' values, and of how many
// changes, to what is changed or made.
type happened struct {
	op, a, b int
	want     string
	turns    int
	changes  int
}

// happens holds an op against what should come; whatever is not a is what it
// was.
func happens(t *testing.T, x happened, k kit) {
	t.Helper()
	what := fmt.Sprint("op ", x.op, " of ", x.a, " and ", x.b)
	ahead := fmt.Sprint(k.texts(x.op, k.v[x.a]))
	into, version := k.v[x.a], 0
	if x.op <= bulk.Spread && x.op != bulk.Extend {
		version = k.dict(into).Version()
	}
	m := k.start(t, x.op, k.v[x.a], k.v[x.b])
	ask := m.Step(many)
	if x.op > bulk.Spread {
		into = ask.Value
	}
	is(t, "P21.1: "+what, []any{ask, k.parts(into), m.Turns()}, []any{ended(into * min(1, max(0, x.op-bulk.Spread))), x.want, x.turns})
	if x.op != bulk.Extend {
		is(t, "P21.1: changes of "+what, k.dict(into).Version()-version, x.changes)
	}
	is(t, "P21.4: "+what, k.texts(x.op, k.v[x.a]), ahead)
}

// texts is the parts of all values, but of one that the op changes.
func (k kit) texts(op, a int) []string {
	var list []string
	for _, v := range k.v {
		if v != a || op > bulk.Spread {
			list = append(list, k.parts(v))
		}
	}
	return list
}

// TestP21_1Dicts: dicts with common keys, and whose values then stand.
func TestP21_1Dicts(t *testing.T) {
	terms := []api.Term{num(1), num(2), num(3), boolean(true), dict(0, 1, 1, 2), dict(1, 0, 2, 2), dict(3, 3), dict()}
	for _, x := range []happened{
		{bulk.Or, 4, 5, "7: 1 2 2 1 3 3", 4, 4},
		{bulk.Or, 5, 4, "7: 2 3 3 3 1 2", 4, 4},
		{bulk.Or, 4, 6, "7: 1 True 2 3", 3, 3}, // the key stays
		{bulk.Or, 6, 4, "7: True 2 2 3", 3, 3},
		{bulk.Or, 4, 4, "7: 1 2 2 3", 4, 4},
		{bulk.Or, 7, 4, "7: 1 2 2 3", 2, 2},
		{bulk.Or, 4, 7, "7: 1 2 2 3", 2, 2},
		{bulk.Or, 7, 7, "7:", 0, 0},
		{bulk.Update, 4, 5, "7: 1 2 2 1 3 3", 2, 2},
		{bulk.Update, 5, 4, "7: 2 3 3 3 1 2", 2, 2},
		{bulk.Update, 4, 6, "7: 1 True 2 3", 1, 1},
		{bulk.Update, 4, 4, "7: 1 2 2 3", 2, 2},
		{bulk.Update, 7, 4, "7: 1 2 2 3", 2, 2},
		{bulk.Update, 4, 7, "7: 1 2 2 3", 0, 0},
	} {
		happens(t, x, built(t, terms...))
	}
}

// TestP21_1UpdateSet: a set, by each kind of b, by itself.
func TestP21_1UpdateSet(t *testing.T) {
	terms := []api.Term{num(1), num(2), num(3), set(0, 1), frozen(2, 1), dict(1, 0, 2, 0), tuple(2, 0, 2), list(2, 1), keys(5), set(2), tuple(), list(), set(), dict(), str("c"), tuple(14, 7)}
	for _, x := range []happened{
		{bulk.Update, 3, 4, "8: 1 2 3", 2, 2},
		{bulk.Update, 3, 5, "8: 1 2 3", 2, 2},
		{bulk.Update, 3, 6, "8: 1 2 3", 6, 3},
		{bulk.Update, 3, 7, "8: 1 2 3", 4, 2},
		{bulk.Update, 3, 8, "8: 1 2 3", 2, 2},
		{bulk.Update, 3, 9, "8: 1 2 3", 1, 1},
		{bulk.Update, 3, 3, "8: 1 2", 2, 2},
		{bulk.Update, 3, 10, "8: 1 2", 0, 0},
		{bulk.Update, 3, 11, "8: 1 2", 0, 0},
		{bulk.Update, 3, 12, "8: 1 2", 0, 0},
		{bulk.Update, 3, 13, "8: 1 2", 0, 0},
		{bulk.Update, 12, 4, "8: 3 2", 2, 2},
		{bulk.Update, 12, 6, "8: 3 1", 6, 3},
	} {
		happens(t, x, built(t, terms...))
	}
	k := built(t, terms...)
	m := k.start(t, bulk.Update, k.v[3], k.v[5])
	m.Step(many)
	for i, p := range k.dict(k.v[3]).Pairs() {
		is(t, "P21.1: a set has no values", []int{p.Hash, p.Value}, []int{k.Hash(k.v[i]), 0})
	}
	is(t, "P21.1: nothing is made", k.Live(), 12)
}

// TestP21_1UpdateItems: pairs come in as tuples, behind their gather.
func TestP21_1UpdateItems(t *testing.T) {
	k := built(t, num(1), num(2), set(0), dict(0, 1, 1, 1), items(3))
	got, turns := k.comes(t, bulk.Update, k.v[2], k.v[4])
	is(t, "P21.1: Update by an items view", []any{got, turns, k.Live()}, []any{"8: 1 #5 #6", 8, 6})
	is(t, "P21.1: the tuple", k.Parts(k.numbered(6)), []int{k.v[1], k.v[1]})
	got, turns = k.comes(t, bulk.Update, k.v[2], k.v[4])
	is(t, "P21.1: Update again", []any{got, turns, k.Live()}, []any{"8: 1 #5 #6", 10, 9}) // they are compared
}

// TestP21_1Unhashable: of a value that can't be hashed, the ones ahead of it are
// in.
func TestP21_1Unhashable(t *testing.T) {
	terms := []api.Term{num(1), num(2), list(), set(), tuple(2, 0, 1), tuple(0, 2, 1), tuple(0, 1, 2), tuple(0, 5), list(1, 2, 0)}
	for _, x := range []struct {
		b     int
		has   string
		turns int
	}{
		{4, "8:", 2}, {5, "8: 1", 4}, {6, "8: 1 2", 6}, {7, "8: 1", 6}, {8, "8: 2", 4},
	} {
		k := built(t, terms...)
		got, turns := k.comes(t, bulk.Update, k.v[3], k.v[x.b])
		is(t, fmt.Sprint("P21.1: Update by ", x.b), []any{got, turns, k.parts(k.v[3])}, []any{"fail", x.turns, x.has})
		k = built(t, terms...)
		live := k.Live()
		for i, op := range []int{bulk.Gather, bulk.Frozen} {
			got, turns = k.comes(t, op, k.v[0], k.v[x.b])
			is(t, fmt.Sprint("P21.1: op ", op, " of ", x.b), []any{got, turns}, []any{"fail", x.turns})
			kind := []int{api.ValSet, api.ValFrozen}[i]
			is(t, "P21.1: what it has then", k.parts(k.numbered(live+i+1)), fmt.Sprint(kind, x.has[1:]))
		}
	}
}

// TestP21_1Extend: rows behind a list's.
func TestP21_1Extend(t *testing.T) {
	terms := []api.Term{num(1), num(2), list(0, 0), tuple(1, 0), list(1), tuple(), list(), tuple(2)}
	for _, x := range []happened{
		{bulk.Extend, 2, 3, "6: 1 1 2 1", 2, 0},
		{bulk.Extend, 2, 4, "6: 1 1 2", 1, 0},
		{bulk.Extend, 2, 5, "6: 1 1", 0, 0},
		{bulk.Extend, 2, 6, "6: 1 1", 0, 0},
		{bulk.Extend, 6, 3, "6: 2 1", 2, 0},
		{bulk.Extend, 6, 6, "6:", 0, 0},
		{bulk.Extend, 2, 2, "6: 1 1 1 1", 2, 0},
		{bulk.Extend, 2, 7, "6: 1 1 #1", 1, 0},
	} {
		happens(t, x, built(t, terms...))
	}
}

// long is a list of so many values.
func (k kit) long(n int) int { return k.NewList(slices.Repeat([]int{k.v[0]}, n)) }

// TestP21_1ExtendMost: a list may have MaxItems values.
func TestP21_1ExtendMost(t *testing.T) {
	k := built(t, num(1), num(2), tuple(1, 1), list(1), tuple())
	all := api.MaxItems
	for _, x := range []struct {
		has, b int
		want   string
		turns  int
		len    int
	}{
		{all - 2, 2, "", 2, all}, {all - 1, 2, "overflow", 0, all - 1}, {all, 2, "overflow", 0, all},
		{all - 1, 3, "", 1, all}, {all, 3, "overflow", 0, all}, {all, 4, "", 0, all},
	} {
		a := k.long(x.has)
		m := k.start(t, bulk.Extend, a, k.v[x.b])
		want := ended(0)
		if x.want != "" {
			want = overflow
		}
		what := fmt.Sprint("P21.1: Extend of ", x.has)
		is(t, what, m.Step(many), want)
		is(t, what, []int{m.Turns(), len(k.list(a).Values)}, []int{x.turns, x.len})
		is(t, what+": again", []any{m.Step(1), m.Tell(k.v[0]), m.Turns()}, []any{want, api.ErrState, x.turns})
	}
	half := k.long(all / 2)
	m := k.start(t, bulk.Extend, half, half)
	is(t, "P21.1: Extend by itself", []any{m.Step(many), m.Turns(), len(k.list(half).Values)}, []any{ended(0), all / 2, all})
	half = k.long(all/2 + 1)
	m = k.start(t, bulk.Extend, half, half)
	is(t, "P21.1: Extend by itself", []any{m.Step(many), m.Turns(), len(k.list(half).Values)}, []any{overflow, 0, all/2 + 1})
}

// TestP21_1ExtendGrows: where a gets more values meanwhile, they stay; there is
// no turn for one that can't be laid.
func TestP21_1ExtendGrows(t *testing.T) {
	k := built(t, num(1), num(2), num(3), list(0), tuple(1, 2), list(1, 1))
	m := k.start(t, bulk.Extend, k.v[3], k.v[4])
	is(t, "P21.1: Step(1)", m.Step(1), more)
	k.list(k.v[3]).Values = append(k.list(k.v[3]).Values, k.v[0])
	is(t, "P21.1: Step", []any{m.Step(9), k.parts(k.v[3])}, []any{ended(0), "6: 1 2 1 3"})

	m = k.start(t, bulk.Extend, k.v[3], k.v[5])
	m.Step(1)
	k.list(k.v[3]).Values = nil
	k.list(k.v[5]).Values[1] = k.v[2] // it is no more what it was when the row began
	is(t, "P21.1: Step", []any{m.Step(9), k.parts(k.v[3])}, []any{ended(0), "6: 2"})

	for _, before := range []int{0, 1} {
		a := k.long(api.MaxItems - 2)
		m = k.start(t, bulk.Extend, a, k.v[4])
		is(t, "P21.1: Step", m.Step(before), more)
		k.list(a).Values = append(k.list(a).Values, k.v[0], k.v[0])[:api.MaxItems]
		is(t, "P21.1: it is full", []any{m.Step(0), m.Step(9), m.Turns(), len(k.list(a).Values)}, []any{overflow, overflow, before, api.MaxItems})
	}
}

// TestP21_1Spread: keys that are no strs, and those that are there.
func TestP21_1Spread(t *testing.T) {
	terms := []api.Term{num(1), str("a"), str("b"), str("c"), str("d"), num(2),
		dict(4, 0),             // 6
		dict(1, 0, 2, 5, 3, 0), // 7: strs
		dict(0, 0, 1, 0, 2, 0), // 8: the first is none
		dict(1, 0, 0, 0, 2, 0), // 9: the second
		dict(1, 5, 2, 5, 0, 0), // 10: the last
		dict(4, 5, 1, 5, 2, 0), // 11: the first is there
		dict(1, 5, 4, 5, 2, 0), // 12: the second
		dict(1, 5, 2, 5, 4, 0), // 13: the last
		dict(),                 // 14
	}
	for _, x := range []struct {
		a, b  int
		ends  api.Ask
		has   string
		turns int
	}{
		{6, 7, ended(0), "7: 'd' 1 'a' 1 'b' 2 'c' 1", 3},
		{6, 8, failed, "7: 'd' 1", 0},
		{6, 9, failed, "7: 'd' 1 'a' 1", 1},
		{6, 10, failed, "7: 'd' 1 'a' 2 'b' 2", 2},
		{6, 11, failed, "7: 'd' 1", 1},
		{6, 12, failed, "7: 'd' 1 'a' 2", 2},
		{6, 13, failed, "7: 'd' 1 'a' 2 'b' 2", 3},
		{6, 14, ended(0), "7: 'd' 1", 0},
		{14, 7, ended(0), "7: 'a' 1 'b' 2 'c' 1", 3},
		{14, 14, ended(0), "7:", 0},
		{6, 6, failed, "7: 'd' 1", 1},
		{8, 14, ended(0), "7: 1 1 'a' 1 'b' 1", 0}, // a may have others
		{8, 6, ended(0), "7: 1 1 'a' 1 'b' 1 'd' 1", 1},
	} {
		k := built(t, terms...)
		version, had := k.dict(k.v[x.a]).Version(), len(k.dict(k.v[x.a]).Pairs())
		m := k.start(t, bulk.Spread, k.v[x.a], k.v[x.b])
		what := fmt.Sprint("P21.1: Spread of ", x.a, " and ", x.b)
		is(t, what, []any{m.Step(many), k.parts(k.v[x.a]), m.Turns()}, []any{x.ends, x.has, x.turns})
		is(t, what+": changes", k.dict(k.v[x.a]).Version()-version, len(k.dict(k.v[x.a]).Pairs())-had)
		is(t, what+": made", k.Live(), 9)
	}
}

// TestP21_1SpreadText: a str with the same text is the same key.
func TestP21_1SpreadText(t *testing.T) {
	k := built(t, str("k"), num(1), dict(0, 1), dict())
	k.put(k.v[3], k.NewStr("k"), digest.Text("k"), k.v[1])
	got, turns := k.comes(t, bulk.Spread, k.v[2], k.v[3])
	is(t, "P21.1: Spread", []any{got, turns, k.parts(k.v[2])}, []any{"fail", 1, "7: 'k' 1"})
}

// TestP21_1Gather: sets of each kind of b.
func TestP21_1Gather(t *testing.T) {
	terms := []api.Term{num(1), num(2), num(3), set(0, 1), frozen(2, 1), dict(1, 0, 2, 0), tuple(2, 0, 2), list(2, 1), keys(5), tuple(), list(), set(), frozen(), dict(), str(""), str("abcba"), str("é\U0001F600é\x00"), values(5), plain(), str("a")}
	for _, x := range []struct {
		b     int
		has   string
		turns int
		puts  int
	}{
		{3, " 1 2", 2, 2}, {4, " 3 2", 2, 2}, {5, " 2 3", 2, 2}, {6, " 3 1", 6, 3}, {7, " 3 2", 4, 2}, {8, " 2 3", 2, 2},
		{9, "", 0, 0}, {10, "", 0, 0}, {11, "", 0, 0}, {12, "", 0, 0}, {13, "", 0, 0},
		{14, "", 0, 0}, {15, " 'a' 'b' 'c'", 10, 5}, {16, " 'é' '\U0001F600' '\\x00'", 8, 4}, {19, " 'a'", 2, 1},
	} {
		for a := range terms {
			for op, kind := range map[int]int{bulk.Gather: api.ValSet, bulk.Frozen: api.ValFrozen} {
				k := built(t, terms...)
				live := k.Live()
				happens(t, happened{op, a, x.b, fmt.Sprint(kind, ":", x.has), x.turns, x.puts}, k)
				is(t, "P21.1: one is made", k.Live(), live+1)
			}
		}
	}
	for _, b := range []int{0, 17, 18} {
		k := built(t, terms...)
		is(t, "P21.1: Gather", bulk.Start(k.Store, bulk.Gather, k.v[3], k.v[b]) == nil, true)
		is(t, "P21.1: Frozen", bulk.Start(k.Store, bulk.Frozen, k.v[3], k.v[b]) == nil, true)
	}
}

// TestP21_1Runes: each rune is a str, with a str's hash.
func TestP21_1Runes(t *testing.T) {
	k := built(t, str("xéy"), str("é"), tuple(1))
	set := k.start(t, bulk.Gather, k.v[0], k.v[0]).Step(many).Value
	for i, text := range []string{"x", "é", "y"} {
		p := k.dict(set).Pairs()[i]
		is(t, "P21.1: a rune", []any{k.Kind(p.Key), k.Tag(p.Key), p.Hash, p.Value}, []any{api.ValStr, "'" + text + "'", digest.Text(text), 0})
	}
	is(t, "P21.1: a rune is found", equal.Has(k.Store, set, k.v[1]).Step(many), done(true))
	got, _ := k.comes(t, bulk.And, set, k.start(t, bulk.Gather, k.v[0], k.v[2]).Step(many).Value)
	is(t, "P21.1: a rune is as a str", got, "8: 'é'")
}

// TestP21_1GatherMade: the set is made ahead of the gather of b; the order of
// numbers says so.
func TestP21_1GatherMade(t *testing.T) {
	for op, kind := range map[int]int{bulk.Gather: api.ValSet, bulk.Frozen: api.ValFrozen} {
		k := built(t, num(1), dict(0, 0), items(1))
		live := k.Live()
		m := k.start(t, op, k.v[0], k.v[2])
		is(t, "P21.1: Start makes nothing", k.Live(), live)
		is(t, "P21.1: Step(0)", m.Step(0), more)
		is(t, "P21.1: the set, the gathered one, a tuple", k.Live(), live+3)
		is(t, "P21.1: the set", []any{k.Kind(k.numbered(live + 1)), k.parts(k.numbered(live + 2))}, []any{kind, "9:"})
		ask := m.Step(many)
		is(t, "P21.1: Gather of an items view", []any{ask, m.Turns()}, []any{ended(k.numbered(live + 1)), 4})
		is(t, "P21.1: Gather of an items view", k.Parts(ask.Value), []int{k.numbered(live + 3)})
	}
}

// TestFull: a dictionary that has all pairs that it may have, in each row.
func TestFull(t *testing.T) {
	terms := []api.Term{num(1), num(2), num(3), num(4), set(0, 1, 2), set(3), frozen(1, 3), dict(0, 0, 1, 1, 2, 2), dict(3, 3, 1, 3), tuple(0, 1, 2, 3, 3), list(1, 3), str("abcd"), str("abcabc"), str("x"), dict(13, 0), items(7), keys(8), tuple(0, 1, 2, 0), dict(1, 0)}
	for _, x := range []struct {
		op, a, b int
		want     string
		turns    int
		has      string // of a
	}{
		{bulk.Or, 4, 5, "full", 4, "8: 1 2 3"},
		{bulk.Or, 4, 6, "full", 5, "8: 1 2 3"},
		{bulk.Or, 4, 4, "8: 1 2 3", 6, "8: 1 2 3"},
		{bulk.Or, 4, 15, "full", 9 + 4, "8: 1 2 3"},
		{bulk.Or, 7, 8, "full", 4, "7: 1 1 2 2 3 3"},
		{bulk.Or, 7, 18, "7: 1 1 2 1 3 3", 4, "7: 1 1 2 2 3 3"},
		{bulk.Xor, 4, 5, "full", 4, "8: 1 2 3"},
		{bulk.Xor, 4, 16, "8: 1 3 4", 5, "8: 1 2 3"},
		{bulk.Update, 4, 5, "full", 1, "8: 1 2 3"},
		{bulk.Update, 4, 6, "full", 2, "8: 1 2 3"},
		{bulk.Update, 4, 10, "full", 4, "8: 1 2 3"},
		{bulk.Update, 4, 8, "full", 1, "8: 1 2 3"},
		{bulk.Update, 4, 4, "8: 1 2 3", 3, "8: 1 2 3"},
		{bulk.Update, 5, 9, "full", 6, "8: 4 1 2"},
		{bulk.Update, 7, 8, "full", 1, "7: 1 1 2 2 3 3"},
		{bulk.Update, 7, 18, "7: 1 1 2 1 3 3", 1, "7: 1 1 2 1 3 3"},
		{bulk.Spread, 7, 14, "full", 1, "7: 1 1 2 2 3 3"},
		{bulk.Gather, 0, 9, "full", 8, "3:"},
		{bulk.Gather, 0, 17, "8: 1 2 3", 8, "3:"},
		{bulk.Gather, 0, 11, "full", 8, "3:"},
		{bulk.Gather, 0, 12, "8: 'a' 'b' 'c'", 12, "3:"},
		{bulk.Frozen, 0, 9, "full", 8, "3:"},
		{bulk.Frozen, 0, 11, "full", 8, "3:"},
		{bulk.And, 4, 4, "8: 1 2 3", 3, "8: 1 2 3"},
		{bulk.Sub, 4, 5, "8: 1 2 3", 3, "8: 1 2 3"},
	} {
		k := builtOf(t, 3, terms...)
		got, turns := k.comes(t, x.op, k.v[x.a], k.v[x.b])
		is(t, fmt.Sprint("P21.2: op ", x.op, " of ", x.a, " and ", x.b), []any{got, turns, k.parts(k.v[x.a])}, []any{x.want, x.turns, x.has})
	}
}

// TestFullCopies: a result that somebody fills meanwhile can be full for what
// is copied, too.
func TestFullCopies(t *testing.T) {
	for _, op := range []int{bulk.Or, bulk.And, bulk.Sub, bulk.Xor} {
		b := 4
		if op == bulk.Sub || op == bulk.Xor {
			b = 5
		}
		k := builtOf(t, 3, num(1), num(2), num(3), set(0, 1), set(0, 1), set(2))
		live := k.Live()
		m := k.start(t, op, k.v[3], k.v[b])
		is(t, "P21.2: Step(1)", m.Step(1), more)
		result := k.numbered(live + 1)
		k.put(result, k.v[2], 7, 0)
		k.put(result, k.v[2], 8, 0)
		is(t, fmt.Sprint("P21.2: op ", op), []any{m.Step(9), m.Turns(), k.parts(result)}, []any{full, 2, "8: 1 3 3"})
		is(t, "P21.2: again", []any{m.Step(0), m.Tell(k.v[0])}, []any{full, api.ErrState})
	}
}

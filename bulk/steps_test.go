package bulk_test

import (
	"fmt"
	"testing"

	"lexicon/api"
	"lexicon/bulk"
	"lexicon/store"
)

// counted is rows that ask nothing, with the turns that they take; some fail,
// some are full.
func counted() []struct{ op, a, b, turns int } {
	return []struct{ op, a, b, turns int }{
		{bulk.Or, 3, 4, 4}, {bulk.And, 3, 4, 2}, {bulk.Sub, 3, 4, 2}, {bulk.Xor, 3, 4, 4}, {bulk.Or, 5, 5, 2},
		{bulk.Le, 3, 4, 1}, {bulk.Lt, 3, 4, 0}, {bulk.Ge, 3, 4, 2}, {bulk.Gt, 3, 4, 0}, {bulk.Le, 3, 3, 2}, {bulk.Ge, 3, 3, 2},
		{bulk.Lt, 12, 3, 1}, {bulk.Gt, 3, 12, 1},
		{bulk.Update, 5, 5, 1}, {bulk.Update, 3, 4, 2}, {bulk.Update, 3, 6, 2}, {bulk.Update, 3, 7, 2}, {bulk.Update, 12, 6, 6}, {bulk.Update, 3, 5, 1},
		{bulk.Update, 3, 8, 3 + 1}, {bulk.Update, 3, 14, 4}, {bulk.Update, 3, 13, 0},
		{bulk.Extend, 7, 6, 3}, {bulk.Extend, 7, 7, 2}, {bulk.Extend, 7, 13, 0},
		{bulk.Spread, 5, 10, 1}, {bulk.Spread, 5, 5, 0}, {bulk.Spread, 10, 10, 1},
		{bulk.Gather, 0, 3, 2}, {bulk.Frozen, 0, 6, 6}, {bulk.Gather, 0, 11, 4}, {bulk.Frozen, 0, 8, 3 + 1}, {bulk.Frozen, 0, 13, 0},
		{bulk.And, 8, 8, 6 + 2}, {bulk.Or, 8, 8, 6 + 1 + 2}, {bulk.Xor, 8, 8, 6 + 2 + 2}, {bulk.Le, 8, 8, 6 + 2}, {bulk.Gt, 8, 8, 6},
	}
}

func countedKit(t *testing.T) kit {
	return builtOf(t, 2, num(1), num(2), num(3), set(0, 1), frozen(1, 2), dict(0, 1), tuple(2, 0, 2), list(2, 1), items(5), str("k"), dict(9, 0), str("aa"), set(0), list(), tuple(0, 13))
}

// TestP21_2Turns: Turns of each row, and Step of below 0, 0, 1, just as many
// as it takes, one less.
func TestP21_2Turns(t *testing.T) {
	for _, x := range counted() {
		what := fmt.Sprint("P21.2: op ", x.op, " of ", x.a, " and ", x.b)
		start := func() *bulk.Machine {
			k := countedKit(t)
			return k.start(t, x.op, k.v[x.a], k.v[x.b])
		}
		m := start()
		is(t, what+": Turns", m.Turns(), 0)
		end := m.Step(many)
		is(t, what+": Turns", m.Turns(), x.turns)
		is(t, what+": it ends", end.Kind == api.TurnDone || end.Kind == api.TurnFail || end.Kind == api.TurnFull, true)
		is(t, what+": as many as it takes", start().Step(x.turns), end)
		m = start()
		for i := range x.turns {
			for _, most := range []int{-5, -1 << 63, 0} {
				is(t, fmt.Sprint(what, ": Step(", most, ")"), []any{m.Step(most), m.Turns()}, []any{more, i})
			}
			want := more
			if i == x.turns-1 {
				want = end // nothing is behind the last turn
			}
			is(t, what+": Step(1)", []any{m.Step(1), m.Turns()}, []any{want, i + 1})
		}
		for _, most := range []int{-1, 0, 1, many} {
			is(t, what+": again", []any{m.Step(most), m.Turns()}, []any{end, x.turns})
		}
		if x.turns > 0 {
			m = start()
			is(t, what+": one less", []any{m.Step(x.turns - 1), m.Turns()}, []any{more, x.turns - 1})
			is(t, what+": it goes on", []any{m.Step(1 << 62), m.Turns()}, []any{end, x.turns})
		}
		is(t, what+": most below 0", start().Step(-1) == end, x.turns == 0)
	}
}

// TestP21_2NothingAhead: ahead of a turn nothing of it is done.
func TestP21_2NothingAhead(t *testing.T) {
	k := built(t, num(1), num(2), set(0), set(1), list(0), tuple(1), dict(0, 0), dict(1, 1), str("ab"))
	live := k.Live()
	m := k.start(t, bulk.Update, k.v[2], k.v[3])
	m.Step(0)
	is(t, "P21.2: Update", k.parts(k.v[2]), "8: 1")
	m.Step(1)
	is(t, "P21.2: Update", k.parts(k.v[2]), "8: 1 2")
	m = k.start(t, bulk.Extend, k.v[4], k.v[5])
	m.Step(0)
	is(t, "P21.2: Extend", k.parts(k.v[4]), "6: 1")
	m.Step(1)
	is(t, "P21.2: Extend", k.parts(k.v[4]), "6: 1 2")
	m = k.start(t, bulk.Or, k.v[6], k.v[7])
	m.Step(0)
	is(t, "P21.2: Or", k.parts(k.numbered(live+1)), "7:")
	m.Step(1)
	is(t, "P21.2: Or", k.parts(k.numbered(live+1)), "7: 1 1")
	m = k.start(t, bulk.Gather, k.v[0], k.v[8])
	m.Step(1) // the rune's, not its hash's
	is(t, "P21.2: Gather", k.parts(k.numbered(live+2)), "8:")
	m.Step(1)
	is(t, "P21.2: Gather", k.parts(k.numbered(live+2)), "8: 'a'")
}

// TestP21_2Ends: Step again, and Tell, when it waits, and when it has ended in
// each way.
func TestP21_2Ends(t *testing.T) {
	k := asking(t)
	x, one, yes := k.v[1], k.v[0], k.v[4]
	m := k.start(t, bulk.And, k.v[2], k.v[3])
	is(t, "P21.2: Tell ahead of the first Step", []int{int(m.Tell(yes)), int(m.Tell(-1))}, []api.Errno{api.ErrState, api.ErrState})
	is(t, "P21.2: Step(0)", m.Step(0), more)
	is(t, "P21.2: Tell where it does not wait", m.Tell(yes), api.ErrState)
	is(t, "P21.2: Step(1)", m.Step(1), more)
	for _, most := range []int{1, -1, 0, many} {
		is(t, "P21.2: it waits", []any{m.Step(most), m.Turns()}, []any{askSame(x, one), 2})
	}
	for _, no := range []int{store.Nothing, -1, 9999} {
		is(t, "P21.2: Tell of no value", []any{m.Tell(no), m.Step(5)}, []any{api.ErrArg, askSame(x, one)})
	}
	is(t, "P21.2: Tell, twice", []api.Errno{m.Tell(yes), m.Tell(yes), m.Tell(-1)}, []api.Errno{api.OK, api.ErrState, api.ErrState})
	end := m.Step(0)
	is(t, "P21.2: Done", end, ended(end.Value))
	is(t, "P21.2: behind the end", []any{m.Tell(yes), m.Tell(-1), m.Step(5), m.Step(-1), m.Turns()}, []any{api.ErrState, api.ErrState, end, end, 2})

	for _, c := range []struct {
		op, b int
		want  api.Ask
	}{
		{bulk.Update, 5, failed}, {bulk.Update, 3, full}, {bulk.Update, 6, ended(0)}, {bulk.Le, 3, done(false)}, {bulk.Ge, 7, done(true)},
	} {
		k := builtOf(t, 1, num(1), num(2), set(0), set(1), list(), tuple(4), frozen(0), set())
		m := k.start(t, c.op, k.v[2], k.v[c.b])
		for range 3 {
			is(t, "P21.2: an end", []any{m.Step(many), m.Tell(k.v[0]), m.Tell(-1)}, []any{c.want, api.ErrState, api.ErrState})
		}
	}
}

// TestP21_2Nil: every method of a nil Machine, of a zero one.
func TestP21_2Nil(t *testing.T) {
	for _, m := range []*bulk.Machine{nil, new(bulk.Machine)} {
		for _, n := range []int{-1, 0, 1, many} {
			is(t, "P21.2: Step of none", m.Step(n), api.Ask{})
			is(t, "P21.2: Tell of none", m.Tell(n), api.ErrArg)
			is(t, "P21.2: Turns of none", m.Turns(), 0)
		}
	}
	var m bulk.Machine
	is(t, "P21.2: what is promoted, of none", []any{m.GoOn(5), m.Told(0)}, []any{api.Ask{}, api.ErrArg})
	k := countedKit(t)
	of := k.start(t, bulk.Or, k.v[3], k.v[3])
	is(t, "P21.2: what is promoted", []any{of.GoOn(1), of.Told(k.v[0]), of.Step(9).Kind, of.Turns()}, []any{more, api.ErrState, api.TurnDone, 4})
}

// TestP21_2Two: two machines on the same values don't know of each other.
func TestP21_2Two(t *testing.T) {
	k := built(t, num(1), num(2), num(3), set(0, 1), set(1, 2))
	a, b := k.start(t, bulk.Or, k.v[3], k.v[4]), k.start(t, bulk.Sub, k.v[3], k.v[4])
	a.Step(2)
	b.Step(1)
	a.Step(1)
	is(t, "P21.2: Sub", []any{k.parts(b.Step(9).Value), b.Turns()}, []any{"8: 1", 2})
	is(t, "P21.2: Or", []any{k.parts(a.Step(9).Value), a.Turns()}, []any{"8: 1 2 3", 4})
}

// TestP21_5Cuts: one game with asks, in Steps of each length: the same asks,
// the same end, the same Turns.
func TestP21_5Cuts(t *testing.T) {
	play := func(most int) string {
		k := built(t, num(1), both(1), hasher(2), boolean(false), set(1, 2), dict(2, 1), items(5), set(0))
		m := k.start(t, bulk.Xor, k.v[4], k.v[6])
		text := ""
		for range 100 {
			switch ask := m.Step(most); ask.Kind {
			case api.TurnMore:
			case api.TurnAsk:
				text += fmt.Sprint(ask, m.Turns(), "; ")
				told := k.v[3]
				if ask.What == api.AskHash {
					told = k.v[0]
				}
				k.put(k.v[4], k.v[0], m.Turns(), 0)
				m.Tell(told)
			default:
				return text + fmt.Sprint(ask, m.Turns(), k.parts(ask.Value), k.parts(k.v[4]), k.Live())
			}
		}
		return text + "it goes on and on"
	}
	want := play(many)
	for most := 1; most < 20; most++ {
		is(t, fmt.Sprint("P21.5: Steps of ", most), play(most), want)
	}
	if len(want) < 100 {
		t.Errorf("P21.5: the game is a short one: %s", want)
	}
}

package probe_test

import (
	"math"
	"slices"
	"testing"

	"lexicon/api"
	"lexicon/meter"
	"lexicon/probe"
)

var goals = []int{api.GoalGet, api.GoalPut, api.GoalDelete, api.GoalKeep}

var edges = []int{0, 1, -1, -2, 7, math.MinInt, math.MinInt + 1, math.MaxInt}

func wantScan(t *testing.T, what string, m *probe.Machine, scan, scans int) {
	t.Helper()
	if m.Scan() != scan || m.Scans() != scans {
		t.Fatalf("%s: Scan %d, Scans %d, want %d, %d", what, m.Scan(), m.Scans(), scan, scans)
	}
}

func TestP8_2Goals(t *testing.T) {
	d := filled(t, 3, nil, 7)
	for _, goal := range []int{0, -1, 5, 9, -4, 1 << 32, 1<<32 + 1, math.MinInt, math.MaxInt} {
		if d.Begin(goal, 7, 1, 0) != nil {
			t.Errorf("Begin(%d) is a Machine", goal)
		}
	}
	for _, goal := range goals {
		if d.Begin(goal, 7, 1, 0) == nil {
			t.Errorf("Begin(%d) is nil", goal)
		}
	}
}

func TestP8_2NothingLookedAt(t *testing.T) {
	count := &meter.Meter{}
	d := filled(t, 3, count, 7)
	sight := d.Sight()
	count.Take()
	for _, goal := range goals {
		m := d.Begin(goal, 7, 2, 0)
		wantScan(t, "Begin", m, 0, 0)
		wantTell(t, "a machine that has not begun", m, true, api.ErrState)
	}
	if count.Read() != (api.Counts{}) || d.Version() != 1 || !sameSight(d.Sight(), sight) {
		t.Errorf("Begin: the Meter has %+v, Version %d", count.Read(), d.Version())
	}
	m := d.Begin(api.GoalGet, 7, 2, 0)
	d.Clear()
	mustPut(t, d, 7, 2, 22)
	wantTurn(t, "changed between Begin and Step", m.Step(), done(true, 22, 0))
	wantScan(t, "changed between Begin and Step", m, 1, 1)
}

// TestP8_3WhileItWaits: Step tells the same again, and looks at nothing, whatever becomes of the Dict.
func TestP8_3WhileItWaits(t *testing.T) {
	count := &meter.Meter{}
	d := filled(t, 3, count, 7, 7)
	m := d.Begin(api.GoalDelete, 7, 9, 0)
	count.Take()
	for range 3 {
		wantTurn(t, "it waits", m.Step(), ask(1))
		wantScan(t, "it waits", m, 1, 1)
	}
	if count.Read() != (api.Counts{Cells: 1}) {
		t.Errorf("the Meter has %+v", count.Read())
	}
	d.Clear()
	wantTurn(t, "it waits, the Dict is cleared", m.Step(), ask(1))
	wantScan(t, "it waits, the Dict is cleared", m, 1, 1)
	wantTell(t, "it waits, the Dict is cleared", m, true, api.OK)
	wantTurn(t, "the Dict is cleared", m.Step(), done(false, 0, -1))
	wantScan(t, "the Dict is cleared", m, 1, 2)
}

// TestP8_3BehindItsEnd: Step tells the last turn again, and does nothing, whatever becomes of the Dict.
func TestP8_3BehindItsEnd(t *testing.T) {
	rows := []struct {
		name string
		goal int
		key  int
		want api.Turn
	}{
		{"a put that adds", api.GoalPut, 3, done(false, 5, 2)},
		{"a put that turns", api.GoalPut, 2, done(true, 20, 1)},
		{"a delete", api.GoalDelete, 2, done(true, 20, 1)},
		{"a delete of nothing", api.GoalDelete, 3, done(false, 0, -1)},
		{"a get", api.GoalGet, 2, done(true, 20, 1)},
		{"a get of nothing", api.GoalGet, 3, done(false, 0, -1)},
		{"a keep that adds", api.GoalKeep, 3, done(false, 5, 2)},
		{"a keep", api.GoalKeep, 2, done(true, 20, 1)},
	}
	for _, r := range rows {
		d := filled(t, 9, nil, 7, 1)
		m := d.Begin(r.goal, 1, r.key, 5)
		turn, _ := run(m)
		wantTurn(t, r.name, turn, r.want)
		scan, version := m.Scan(), d.Version()
		wantTurn(t, r.name+", once more", m.Step(), r.want)
		wantTell(t, r.name, m, true, api.ErrState)
		wantTell(t, r.name, m, false, api.ErrState)
		wantTurn(t, r.name+", told behind its end", m.Step(), r.want)
		wantVersion(t, r.name+", once more", d, version)
		d.Clear()
		wantTurn(t, r.name+", the Dict cleared", m.Step(), r.want)
		wantScan(t, r.name+", the Dict cleared", m, scan, 1)
		wantKeys(t, r.name+", the Dict cleared", d)
	}
	d := filled(t, 1, nil, 7)
	m := d.Begin(api.GoalPut, 1, 2, 20)
	wantTurn(t, "full", m.Step(), full())
	d.Clear()
	wantTurn(t, "full, though there is room by now", m.Step(), full())
	wantTell(t, "full", m, true, api.ErrState)
	wantKeys(t, "full", d)
}

// TestP8_3ItsOwnNumber: the same number is the same key, without an ask; but those ahead of it are asked of.
func TestP8_3ItsOwnNumber(t *testing.T) {
	for _, hash := range edges {
		d := filled(t, 9, nil, hash, hash, hash, hash)
		for key := 1; key <= 4; key++ {
			m := d.Begin(api.GoalGet, hash, key, 0)
			turn, asked := run(m)
			wantTurn(t, "its own number", turn, done(true, 10*key, key-1))
			if want := []int{1, 2, 3}[:key-1]; !slices.Equal(asked, want) {
				t.Errorf("hash %d, key %d: asked %v, want %v", hash, key, asked, want)
			}
		}
	}
	// Twice the same number: the hash was another one when it came first.
	d := filled(t, 9, nil, 7)
	mustPut(t, d, 15, 1, 11)
	wantKeys(t, "one number of two hashes", d, 1, 1)
	wantTurn(t, "one number of two hashes", d.Begin(api.GoalGet, 7, 1, 0).Step(), done(true, 10, 0))
	wantTurn(t, "one number of two hashes", d.Begin(api.GoalGet, 15, 1, 0).Step(), done(true, 11, 1))
	wantTurn(t, "its own number, of another hash", d.Begin(api.GoalGet, 23, 1, 0).Step(), done(false, 0, -1))
}

// TestP8_3AllKeys: keys and values are any numbers, 0 and -1 too.
func TestP8_3AllKeys(t *testing.T) {
	d := fresh(t, 100, nil)
	for i, key := range edges {
		turn, asked := run(d.Begin(api.GoalPut, 5, key, -key))
		wantTurn(t, "a put", turn, done(false, -key, i))
		if !slices.Equal(asked, edges[:i]) {
			t.Errorf("a put of the key %d asked %v", key, asked)
		}
	}
	for i, key := range edges {
		turn, _ := run(d.Begin(api.GoalGet, 5, key, 0))
		wantTurn(t, "a get", turn, done(true, -key, i))
	}
}

// TestP8_3ToldTheSame: the entry that is told to be the same is hit, and none behind it asked of.
func TestP8_3ToldTheSame(t *testing.T) {
	for _, hash := range edges {
		for place := range 3 {
			d := filled(t, 3, nil, hash, hash, hash)
			m := d.Begin(api.GoalGet, hash, 9, 0)
			for i := range place {
				wantTurn(t, "ahead of it", m.Step(), ask(i+1))
				wantTell(t, "ahead of it", m, false, api.OK)
			}
			wantTurn(t, "the same", m.Step(), ask(place+1))
			scan := m.Scan()
			wantTell(t, "the same", m, true, api.OK)
			wantTurn(t, "the same", m.Step(), done(true, 10*(place+1), place))
			wantScan(t, "the same: nothing more is visited", m, scan, 1)
		}
	}
}

// TestP8_3OtherHashes: hashes that meet at one cell, but are not one, are not asked of.
func TestP8_3OtherHashes(t *testing.T) {
	d := filled(t, 9, nil, 7, 15, 7, 7+1<<40, -1)
	for hash, want := range map[int][]int{7: {1, 3}, 15: {2}, 7 + 1<<40: {4}, -1: {5}, 23: nil, math.MaxInt: nil} {
		turn, asked := run(d.Begin(api.GoalGet, hash, 99, 0))
		if turn != done(false, 0, -1) || !slices.Equal(asked, want) {
			t.Errorf("hash %d: %+v, asked %v, want %v", hash, turn, asked, want)
		}
	}
}

func TestP8_4Tell(t *testing.T) {
	count := &meter.Meter{}
	for _, first := range []bool{true, false} {
		d := filled(t, 3, count, 7, 7)
		m := d.Begin(api.GoalDelete, 7, 9, 0)
		wantTell(t, "ahead of Step", m, first, api.ErrState)
		wantTurn(t, "told ahead of Step", m.Step(), ask(1))
		sight := d.Sight()
		count.Take()
		wantTell(t, "it waits", m, first, api.OK)
		for _, again := range []bool{true, false} {
			wantTell(t, "told twice", m, again, api.ErrState)
		}
		wantScan(t, "Tell visits nothing", m, 1, 1)
		if count.Read() != (api.Counts{}) || d.Version() != 2 || !sameSight(d.Sight(), sight) {
			t.Errorf("Tell has done something: %+v, Version %d", count.Read(), d.Version())
		}
		want := ask(2)
		if first {
			want = done(true, 10, 0)
		}
		wantTurn(t, "what it was told first counts", m.Step(), want)
	}
	// What it was told of one entry says nothing of the next one.
	d := filled(t, 3, nil, 7, 7)
	m := d.Begin(api.GoalGet, 7, 9, 0)
	m.Step()
	m.Tell(false)
	wantTurn(t, "the next one", m.Step(), ask(2))
	wantTurn(t, "the next one", m.Step(), ask(2))
	wantTell(t, "the next one", m, false, api.OK)
	wantTurn(t, "the end", m.Step(), done(false, 0, -1))
	wantTell(t, "the end", m, false, api.ErrState)
}

// atHit is what each goal does at a hit of the pair 2: 20, with the value 55.
var atHit = []struct {
	goal    int
	changes int
	keys    []int
	value   int // that the pair has then
}{
	{api.GoalGet, 0, []int{1, 2, 3}, 20},
	{api.GoalKeep, 0, []int{1, 2, 3}, 20},
	{api.GoalPut, 1, []int{1, 2, 3}, 55},
	{api.GoalDelete, 1, []int{1, 3}, 0},
}

// TestP8_5Hits: in a full Dict and in one that has room, by the number and by what was told.
func TestP8_5Hits(t *testing.T) {
	for _, r := range atHit {
		for _, most := range []int{3, 4} {
			for _, key := range []int{2, 9} {
				d := filled(t, most, nil, 1, 7, 7)
				m := d.Begin(r.goal, 7, key, 55)
				if key == 9 {
					wantTurn(t, "asked", m.Step(), ask(2))
					wantTell(t, "asked", m, true, api.OK)
				}
				wantTurn(t, "a hit", m.Step(), done(true, 20, 1))
				wantVersion(t, "a hit", d, 3+r.changes)
				wantKeys(t, "a hit", d, r.keys...)
				if second := d.Pairs()[1]; r.value != 0 && second != (api.Entry{Live: true, Hash: 7, Key: 2, Value: r.value, Birth: 1}) {
					t.Errorf("goal %d: the pair is %+v", r.goal, second)
				}
				sight := d.Sight()
				if dead := sight.Entries[1] == (api.Entry{}); dead != (r.goal == api.GoalDelete) || sight.Births != 3 || sight.Made != 1 {
					t.Errorf("goal %d: the table is %+v", r.goal, sight)
				}
			}
		}
	}
}

// TestP8_5TheSameValue: a put that turns a value into itself is a change, too.
func TestP8_5TheSameValue(t *testing.T) {
	d := filled(t, 3, nil, 7)
	wantTurn(t, "a put", d.Begin(api.GoalPut, 7, 1, 10).Step(), done(true, 10, 0))
	wantVersion(t, "a put", d, 2)
}

func TestP8_6Misses(t *testing.T) {
	for _, room := range []int{0, 1} {
		for _, hash := range edges {
			for _, goal := range goals {
				d := filled(t, 3+room, nil, 1, 7, 7)
				want, changes, keys := done(false, 0, -1), 0, []int{1, 2, 3}
				if goal == api.GoalPut || goal == api.GoalKeep {
					want = full()
					if room > 0 {
						want, changes, keys = done(false, 55, 3), 1, []int{1, 2, 3, 9}
					}
				}
				turn, _ := run(d.Begin(goal, hash, 9, 55))
				wantTurn(t, "a miss", turn, want)
				wantVersion(t, "a miss", d, 3+changes)
				wantKeys(t, "a miss", d, keys...)
				if changes == 1 && d.Pairs()[3] != (api.Entry{Live: true, Hash: hash, Key: 9, Value: 55, Birth: 3}) {
					t.Errorf("goal %d: the pair is %+v", goal, d.Pairs()[3])
				}
			}
		}
	}
}

// TestP8_6Numbers: the number of what is added is the table's, also where dead entries are dropped.
func TestP8_6Numbers(t *testing.T) {
	d := filled(t, 5, nil, 0, 1, 2, 3, 4)
	mustDelete(t, d, 1, 2)
	mustDelete(t, d, 3, 4)
	wantTurn(t, "behind the dropping", d.Begin(api.GoalPut, 9, 6, 60).Step(), done(false, 60, 3))
	wantTurn(t, "one that was 4", d.Begin(api.GoalGet, 4, 5, 0).Step(), done(true, 50, 2))
	wantTurn(t, "a keep", d.Begin(api.GoalKeep, 9, 7, 70).Step(), ask(6))
}

func TestP8_8Scans(t *testing.T) {
	d := filled(t, 9, nil, 7, 7, 1, 7) // the trail of 7: 7 4 5 2 ..
	m := d.Begin(api.GoalGet, 7, 9, 0)
	wantScan(t, "ahead of Step", m, 0, 0)
	for i, key := range []int{1, 2, 4} {
		wantTurn(t, "an entry", m.Step(), ask(key))
		wantScan(t, "an entry", m, i+1, 1)
		m.Tell(false)
	}
	mustDelete(t, d, 7, 1)
	wantTurn(t, "begun anew", m.Step(), ask(2))
	wantScan(t, "begun anew: behind a Dead cell", m, 2, 2)
	d.Begin(api.GoalPut, 1, 3, 33).Step()
	m.Tell(false)
	wantTurn(t, "begun anew", m.Step(), ask(2))
	wantScan(t, "begun anew", m, 2, 3)
	m.Tell(false)
	wantTurn(t, "the last one", m.Step(), ask(4))
	m.Tell(false)
	wantTurn(t, "the end", m.Step(), done(false, 0, -1))
	wantScan(t, "the end: the Empty cell too", m, 4, 3)
	d.Clear()
	m.Step()
	wantScan(t, "behind the end", m, 4, 3)
}

func TestP8_9NilMachine(t *testing.T) {
	var none *probe.Machine
	var zero probe.Machine // of which nothing is said; it is of no Dict
	for _, m := range []*probe.Machine{none, &zero} {
		for range 2 {
			wantTurn(t, "Step", m.Step(), api.Turn{})
			wantTell(t, "Tell", m, true, api.ErrArg)
			wantTell(t, "Tell", m, false, api.ErrArg)
			wantScan(t, "Scan and Scans", m, 0, 0)
		}
	}
}

// TestP8_10ChangedWhileItWaits: the keys 1, 2, 3 are of one hash, 4 of another; a machine waits at 2.
func TestP8_10ChangedWhileItWaits(t *testing.T) {
	step := func(goal, hash, key int) func(d *probe.Dict) {
		return func(d *probe.Dict) { run(d.Begin(goal, hash, key, 77)) }
	}
	rows := []struct {
		name string
		anew bool // whether the machine begins anew
		asks []int
		do   func(d *probe.Dict)
	}{
		{"a put of a new key", true, []int{1, 2, 3, 5}, step(api.GoalPut, 7, 5)},
		{"a put of a new key of another hash", true, []int{1, 2, 3}, step(api.GoalPut, 0, 5)},
		{"a keep of a new key", true, []int{1, 2, 3, 5}, step(api.GoalKeep, 7, 5)},
		{"a put that turns its value", true, []int{1, 2, 3}, step(api.GoalPut, 7, 2)},
		{"a put that turns one behind it", true, []int{1, 2, 3}, step(api.GoalPut, 7, 3)},
		{"a put that turns one of another hash", true, []int{1, 2, 3}, step(api.GoalPut, 1, 4)},
		{"a delete of it", true, []int{1, 3}, step(api.GoalDelete, 7, 2)},
		{"a delete of one ahead", true, []int{2, 3}, step(api.GoalDelete, 7, 1)},
		{"a delete of one behind", true, []int{1, 2}, step(api.GoalDelete, 7, 3)},
		{"a delete of another hash", true, []int{1, 2, 3}, step(api.GoalDelete, 1, 4)},
		{"a delete and a put of it", true, []int{1, 3, 2}, func(d *probe.Dict) {
			run(d.Begin(api.GoalDelete, 7, 2, 0))
			run(d.Begin(api.GoalPut, 7, 2, 20))
		}},
		{"First", true, []int{2, 3}, func(d *probe.Dict) { d.First() }},
		{"Last", true, []int{1, 2, 3}, func(d *probe.Dict) { d.Last() }},
		{"First, thrice", true, nil, func(d *probe.Dict) { d.First(); d.First(); d.First() }},
		{"Clear", true, nil, func(d *probe.Dict) { d.Clear() }},
		{"nothing", false, []int{3}, func(d *probe.Dict) {}},
		{"a get", false, []int{3}, step(api.GoalGet, 7, 3)},
		{"a get of nothing", false, []int{3}, step(api.GoalGet, 7, 8)},
		{"a keep of a key that is there", false, []int{3}, step(api.GoalKeep, 7, 2)},
		{"a delete of nothing", false, []int{3}, step(api.GoalDelete, 7, 8)},
		{"what looks", false, []int{3}, func(d *probe.Dict) { d.Pairs(); d.Sight(); d.Len(); d.Version() }},
		{"a copy that is changed", false, []int{3}, func(d *probe.Dict) { d.Copy().Clear() }},
	}
	for _, r := range rows {
		for _, same := range []bool{true, false} {
			for _, goal := range goals {
				d := filled(t, 9, nil, 7, 7, 7, 1)
				m := d.Begin(goal, 7, 9, 99)
				m.Step()
				m.Tell(false)
				wantTurn(t, r.name, m.Step(), ask(2))
				r.do(d)
				wantTell(t, r.name, m, same, api.OK)
				turn, asked := run(m)
				want, scans, found := r.asks, 2, false
				if !r.anew {
					scans, found = 1, same
				}
				if found {
					want = nil
				}
				if turn.Kind != api.TurnDone || turn.Found != found || !slices.Equal(asked, want) || m.Scans() != scans {
					t.Errorf("%s, told %v: %+v, asked %v, %d scans, want %v, %d", r.name, same, turn, asked, m.Scans(), want, scans)
				}
			}
		}
	}
}

// TestP8_10ChangedBehindTell: what was told is forgotten also if the change comes between Tell and Step.
func TestP8_10ChangedBehindTell(t *testing.T) {
	for _, same := range []bool{true, false} {
		d := filled(t, 9, nil, 7, 7)
		m := d.Begin(api.GoalDelete, 7, 9, 0)
		wantTurn(t, "asked", m.Step(), ask(1))
		wantTell(t, "asked", m, same, api.OK)
		mustPut(t, d, 1, 3, 30)
		wantTell(t, "told already", m, same, api.ErrState)
		wantTurn(t, "begun anew", m.Step(), ask(1))
		wantKeys(t, "begun anew", d, 1, 2, 3)
		wantTell(t, "begun anew", m, false, api.OK)
		wantTurn(t, "what was told is forgotten", m.Step(), ask(2))
		wantTell(t, "the second one", m, true, api.OK)
		wantTurn(t, "the second one", m.Step(), done(true, 20, 1))
		wantKeys(t, "the second one", d, 1, 3)
	}
}

// TestP8_10BegunAnewAtItsOwnNumber: the key was put in by somebody else meanwhile.
func TestP8_10BegunAnewAtItsOwnNumber(t *testing.T) {
	for _, r := range atHit {
		d := filled(t, 9, nil, 7)
		m := d.Begin(r.goal, 7, 2, 55)
		wantTurn(t, "asked", m.Step(), ask(1))
		mustPut(t, d, 7, 2, 20)
		wantTell(t, "asked", m, false, api.OK)
		wantTurn(t, "begun anew", m.Step(), ask(1))
		wantTell(t, "begun anew", m, false, api.OK)
		wantTurn(t, "its own number", m.Step(), done(true, 20, 1))
		wantVersion(t, "its own number", d, 2+r.changes)
	}
}

func TestP8_10TwoMachines(t *testing.T) {
	d := filled(t, 3, nil, 7, 7)
	a, b := d.Begin(api.GoalPut, 7, 8, 80), d.Begin(api.GoalDelete, 7, 9, 0)
	wantTurn(t, "a", a.Step(), ask(1))
	wantTurn(t, "b", b.Step(), ask(1))
	wantTell(t, "a", a, true, api.OK)
	wantTell(t, "b", b, true, api.OK)
	wantTurn(t, "a turns the value", a.Step(), done(true, 10, 0))
	wantTurn(t, "b begins anew", b.Step(), ask(1))
	wantTell(t, "b", b, true, api.OK)
	wantTurn(t, "b takes it out", b.Step(), done(true, 80, 0))
	wantScan(t, "a", a, 1, 1)
	wantScan(t, "b", b, 1, 2)
	wantKeys(t, "behind both", d, 2)

	// Neither changes anything up to its end: they do not disturb each other.
	a, b = d.Begin(api.GoalGet, 7, 8, 0), d.Begin(api.GoalKeep, 7, 9, 90)
	for _, m := range []*probe.Machine{a, b} {
		wantTurn(t, "both ask", m.Step(), ask(2))
		wantTell(t, "both ask", m, false, api.OK)
	}
	wantTurn(t, "a", a.Step(), done(false, 0, -1))
	wantTurn(t, "b", b.Step(), done(false, 90, 2))
	wantScan(t, "b", b, 3, 1) // a Dead cell, that of 2, an Empty one
}

// TestP8_10TwoPuts: two machines are to put in new keys where there is room for one.
func TestP8_10TwoPuts(t *testing.T) {
	for _, second := range []int{8, 9} {
		d := filled(t, 2, nil, 7)
		a, b := d.Begin(api.GoalPut, 7, 8, 80), d.Begin(api.GoalPut, 7, second, 90)
		for _, m := range []*probe.Machine{a, b} {
			wantTurn(t, "both ask", m.Step(), ask(1))
			wantTell(t, "both ask", m, false, api.OK)
		}
		wantTurn(t, "a", a.Step(), done(false, 80, 1))
		wantTurn(t, "b begins anew", b.Step(), ask(1))
		wantTell(t, "b", b, false, api.OK)
		if second == 8 {
			wantTurn(t, "b hits what a put in", b.Step(), done(true, 80, 1))
			wantVersion(t, "b hits what a put in", d, 3)
			continue
		}
		wantTurn(t, "b asks of what a put in", b.Step(), ask(8))
		wantTell(t, "b", b, false, api.OK)
		wantTurn(t, "b meets a full Dict", b.Step(), full())
		wantVersion(t, "b meets a full Dict", d, 2)
	}
}

// TestP8_10WhoIsAsked is the document's own example of who is asked: k1, k1, k2.
func TestP8_10WhoIsAsked(t *testing.T) {
	d := filled(t, 9, nil, 7, 7, 7)
	m := d.Begin(api.GoalGet, 7, 4, 0)
	var asked []int
	for turn := m.Step(); turn.Kind == api.TurnAsk; turn = m.Step() {
		asked = append(asked, turn.Key)
		if len(asked) == 1 {
			mustDelete(t, d, 7, 3)
		}
		m.Tell(false)
	}
	if !slices.Equal(asked, []int{1, 1, 2}) {
		t.Errorf("asked %v", asked)
	}
}

// TestP8_10TheSequenceAlone: one sequence, in tables that have come to it in unlike ways.
func TestP8_10TheSequenceAlone(t *testing.T) {
	hash := func(key int) int { return []int{7, 15, -1, 224}[key%4] }
	put := func(d *probe.Dict, from, to int) {
		for key := from; key < to; key++ {
			mustPut(t, d, hash(key), key, 10*key)
		}
	}
	plain := fresh(t, 50, nil)
	put(plain, 0, 20)
	dead := fresh(t, 50, nil)
	put(dead, 20, 50)
	put(dead, 0, 10)
	for key := 20; key < 50; key++ {
		mustDelete(t, dead, hash(key), key)
	}
	put(dead, 10, 20)
	cleared := fresh(t, 50, nil)
	put(cleared, 5, 40)
	cleared.Clear()
	put(cleared, 0, 20)
	for _, d := range []*probe.Dict{dead, cleared, dead.Copy(), cleared.Copy()} {
		for key := range 30 {
			for _, goal := range goals {
				turn, asked := run(d.Copy().Begin(goal, hash(key), key, 5))
				want, asked2 := run(plain.Copy().Begin(goal, hash(key), key, 5))
				turn2, asked3 := run(d.Begin(api.GoalGet, hash(key), key, 5))
				if turn != want || !slices.Equal(asked, asked2) || turn2.Found != want.Found || !slices.Equal(asked3, asked2) {
					t.Fatalf("goal %d, key %d: %+v, asked %v, want %+v, %v", goal, key, turn, asked, want, asked2)
				}
			}
		}
	}
}

// TestP8_11NothingHasChanged: a machine that waits beside one that meets a full Dict goes on as if nothing were.
func TestP8_11NothingHasChanged(t *testing.T) {
	for _, goal := range []int{api.GoalPut, api.GoalKeep} {
		count := &meter.Meter{}
		d := filled(t, 5, count, 7, 7, 1, 2, 3) // as many entries as the cells have room for
		waits := d.Begin(api.GoalGet, 7, 9, 0)
		wantTurn(t, "one waits", waits.Step(), ask(1))
		sight, pairs, tables := d.Sight(), d.Pairs(), count.Read().Tables
		for _, hash := range edges {
			turn, _ := run(d.Begin(goal, hash, 66, 1))
			wantTurn(t, "full", turn, full())
		}
		if !sameSight(d.Sight(), sight) || !slices.Equal(d.Pairs(), pairs) || d.Version() != 5 || count.Read().Tables != tables {
			t.Errorf("TurnFull has changed something: %+v", d.Sight())
		}
		wantTell(t, "one waits", waits, false, api.OK)
		wantTurn(t, "one that waited", waits.Step(), ask(2))
		wantScan(t, "one that waited", waits, 2, 1)
	}
}

// TestP8_11JustThere: of all that may be done with a full Dict only a new key is refused, and only as long as it is full.
func TestP8_11JustThere(t *testing.T) {
	d := filled(t, 3, nil, 7, 7, 1)
	for _, r := range atHit[:3] {
		wantTurn(t, "a key that is there", d.Begin(r.goal, 7, 1, 10).Step(), done(true, 10, 0))
	}
	wantTurn(t, "a delete of a new key", d.Begin(api.GoalDelete, 2, 9, 0).Step(), done(false, 0, -1))
	wantTurn(t, "a get of a new key", d.Begin(api.GoalGet, 2, 9, 0).Step(), done(false, 0, -1))
	frees := []func(){
		func() { mustDelete(t, d, 7, 1) },
		func() { d.First() },
		func() { d.Last() },
		func() { d.Clear() },
	}
	for i, free := range frees {
		wantTurn(t, "a new key", d.Begin(api.GoalPut, 2+i, 9+i, 0).Step(), full())
		wantTurn(t, "a new key", d.Begin(api.GoalKeep, 2+i, 9+i, 0).Step(), full())
		free()
		if turn := d.Begin(api.GoalPut, 2+i, 9+i, 0).Step(); turn.Kind != api.TurnDone || turn.Found {
			t.Errorf("a new key, room made: %+v", turn)
		}
	}
}

// TestP8_11RoomMadeMeanwhile: whether a Dict is full counts where the machine misses, not where it began.
func TestP8_11RoomMadeMeanwhile(t *testing.T) {
	d := filled(t, 2, nil, 7, 1)
	m := d.Begin(api.GoalPut, 7, 9, 90)
	wantTurn(t, "asked", m.Step(), ask(1))
	d.Last()
	wantTell(t, "asked", m, false, api.OK)
	wantTurn(t, "begun anew", m.Step(), ask(1))
	wantTell(t, "begun anew", m, false, api.OK)
	wantTurn(t, "there is room now", m.Step(), done(false, 90, 2))
}

// TestP8_12Cells: tables that are as full as they may be, of hashes that meet.
func TestP8_12Cells(t *testing.T) {
	rules := []func(i int) int{
		func(i int) int { return 7 },
		func(i int) int { return 224 },
		func(i int) int { return i },
		func(i int) int { return 3 + i<<20 },
		func(i int) int { return math.MinInt + i },
		func(i int) int { return -i },
	}
	for _, rule := range rules {
		count := &meter.Meter{}
		d := fresh(t, 200, count)
		for i := range 100 {
			mustPut(t, d, rule(i), i, i)
			if i%3 == 0 {
				mustDelete(t, d, rule(i), i)
			}
			for _, hash := range append(edges, rule(0), rule(i), rule(i+1)) {
				m := d.Begin(api.GoalGet, hash, -5, 0)
				count.Take()
				run(m)
				if cells := len(d.Sight().Cells); m.Scan() > cells+api.Steps || count.Read() != (api.Counts{Cells: m.Scan()}) {
					t.Fatalf("hash %d: %d visited of %d cells, counted %+v", hash, m.Scan(), cells, count.Read())
				}
			}
		}
	}
}

// TestP8_13OneScan: nobody changes the Dict, though others look at it between the Steps.
func TestP8_13OneScan(t *testing.T) {
	hashes := []int{7, 1, 7, 224, 7, -1, 224, 7, math.MinInt, 7, 224}
	for _, goal := range goals {
		for _, hash := range []int{7, 1, 224, -1, math.MinInt, 23} {
			d := filled(t, 20, nil, hashes...)
			var want, asked []int
			for i, h := range hashes {
				if h == hash {
					want = append(want, i+1)
				}
			}
			m := d.Begin(goal, hash, 99, 0)
			for turn := m.Step(); turn.Kind == api.TurnAsk; turn = m.Step() {
				asked = append(asked, turn.Key)
				run(d.Begin(api.GoalGet, 7, 5, 0))
				m.Tell(false)
			}
			if !slices.Equal(asked, want) || m.Scans() != 1 {
				t.Errorf("goal %d, hash %d: asked %v, want %v, %d scans", goal, hash, asked, want, m.Scans())
			}
		}
	}
}

func TestExamplesOfChapter8(t *testing.T) {
	d := fresh(t, 3, nil)
	wantTurn(t, "row 1", d.Begin(api.GoalPut, 7, 1, 10).Step(), done(false, 10, 0))
	wantTurn(t, "row 1", d.Begin(api.GoalPut, 7, 1, 11).Step(), done(true, 10, 0))
	wantVersion(t, "row 1", d, 2)
	m1 := d.Begin(api.GoalPut, 7, 2, 20)
	wantTurn(t, "row 2", m1.Step(), ask(1))
	wantTurn(t, "row 2", m1.Step(), ask(1))
	wantTell(t, "row 2", m1, false, api.OK)
	wantTurn(t, "row 2", m1.Step(), done(false, 20, 1))
	wantTell(t, "row 3", m1, true, api.ErrState)
	wantTurn(t, "row 3", m1.Step(), done(false, 20, 1))
	if m1.Scans() != 1 {
		t.Errorf("row 3: %d scans", m1.Scans())
	}
	m2 := d.Begin(api.GoalGet, 7, 3, 0)
	wantTurn(t, "row 4", m2.Step(), ask(1))
	wantTurn(t, "row 4", d.Begin(api.GoalDelete, 7, 1, 0).Step(), done(true, 11, 0))
	wantTell(t, "row 4", m2, true, api.OK)
	wantTurn(t, "row 4", m2.Step(), ask(2))
	if m2.Scans() != 2 {
		t.Errorf("row 4: %d scans", m2.Scans())
	}
	wantTell(t, "row 5", m2, true, api.OK)
	wantTurn(t, "row 5", m2.Step(), done(true, 20, 1))
	wantTurn(t, "row 6", d.Begin(api.GoalPut, 1, 4, 40).Step(), done(false, 40, 2))
	wantTurn(t, "row 6", d.Begin(api.GoalPut, 2, 5, 50).Step(), done(false, 50, 3))
	wantTurn(t, "row 6", d.Begin(api.GoalPut, 3, 6, 60).Step(), full())
	last, e := d.Last()
	if last != (api.Entry{Live: true, Hash: 2, Key: 5, Value: 50, Birth: 3}) || e != api.OK {
		t.Errorf("row 7: Last: %+v, error %d", last, e)
	}
	first, e := d.First()
	if first != (api.Entry{Live: true, Hash: 7, Key: 2, Value: 20, Birth: 1}) || e != api.OK {
		t.Errorf("row 7: First: %+v, error %d", first, e)
	}
	if got := d.Pairs(); !slices.Equal(got, []api.Entry{{Live: true, Hash: 1, Key: 4, Value: 40, Birth: 2}}) {
		t.Errorf("row 7: Pairs: %+v", got)
	}
	if d.Begin(9, 0, 0, 0) != nil {
		t.Error("row 8: Begin of no goal")
	}
}

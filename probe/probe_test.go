package probe_test

import (
	"math"
	"slices"
	"testing"

	"lexicon/api"
	"lexicon/meter"
	"lexicon/probe"
	"lexicon/table"
)

// fresh is a Dict without a pair.
func fresh(t *testing.T, most int, m *meter.Meter) *probe.Dict {
	t.Helper()
	d, e := probe.New(most, m)
	if d == nil || e != api.OK {
		t.Fatalf("New(%d): error %d", most, e)
	}
	return d
}

// run is a machine's last turn, and the keys that it asked of; all of them are told to be others.
func run(m *probe.Machine) (api.Turn, []int) {
	var asked []int
	for {
		turn := m.Step()
		if turn.Kind != api.TurnAsk {
			return turn, asked
		}
		asked = append(asked, turn.Key)
		m.Tell(false)
	}
}

// mustPut puts a pair in whose key is new.
func mustPut(t *testing.T, d *probe.Dict, hash, key, value int) {
	t.Helper()
	turn, _ := run(d.Begin(api.GoalPut, hash, key, value))
	if turn.Kind != api.TurnDone || turn.Found || turn.Value != value {
		t.Fatalf("a put of the key %d: %+v", key, turn)
	}
}

// mustDelete takes out the pair of a key.
func mustDelete(t *testing.T, d *probe.Dict, hash, key int) {
	t.Helper()
	turn, _ := run(d.Begin(api.GoalDelete, hash, key, 0))
	if turn.Kind != api.TurnDone || !turn.Found {
		t.Fatalf("a delete of the key %d: %+v", key, turn)
	}
}

// filled is a Dict of the keys 1, 2, .., each with ten times that as its value, of the hashes that are given.
func filled(t *testing.T, most int, m *meter.Meter, hashes ...int) *probe.Dict {
	t.Helper()
	d := fresh(t, most, m)
	for i, hash := range hashes {
		mustPut(t, d, hash, i+1, 10*(i+1))
	}
	return d
}

// keys are those of a Dict, in their order.
func keys(d *probe.Dict) []int {
	var row []int
	for _, e := range d.Pairs() {
		row = append(row, e.Key)
	}
	return row
}

func wantKeys(t *testing.T, what string, d *probe.Dict, want ...int) {
	t.Helper()
	if got := keys(d); !slices.Equal(got, want) || d.Len() != len(want) {
		t.Fatalf("%s: the keys %v, Len %d, want %v", what, got, d.Len(), want)
	}
}

func wantVersion(t *testing.T, what string, d *probe.Dict, want int) {
	t.Helper()
	if d.Version() != want {
		t.Fatalf("%s: Version: got %d, want %d", what, d.Version(), want)
	}
}

func wantTell(t *testing.T, what string, m *probe.Machine, same bool, want api.Errno) {
	t.Helper()
	if got := m.Tell(same); got != want {
		t.Fatalf("%s: Tell: got %d, want %d", what, got, want)
	}
}

func TestP8_1New(t *testing.T) {
	for _, most := range []int{-1, -2, api.MaxPairs + 1, math.MinInt, math.MaxInt} {
		m := &meter.Meter{}
		if d, e := probe.New(most, m); d != nil || e != api.ErrArg || m.Read() != (api.Counts{}) {
			t.Errorf("New(%d): error %d, counted %+v", most, e, m.Read())
		}
	}
	for _, most := range []int{0, 1, 2, api.MaxPairs - 1, api.MaxPairs} {
		m := &meter.Meter{}
		d := fresh(t, most, m)
		wantDict(t, "New", d, newModel(most, nil))
		if m.Read() != (api.Counts{Tables: 1}) {
			t.Errorf("New(%d): the Meter has %+v", most, m.Read())
		}
		wantDict(t, "New without a Meter", fresh(t, most, nil), newModel(most, nil))
	}
	d, other := fresh(t, 3, nil), fresh(t, 3, nil)
	mustPut(t, d, 1, 2, 3)
	wantDict(t, "another Dict", other, newModel(3, nil))
}

func TestP8_1HowManyPairs(t *testing.T) {
	for _, most := range []int{0, 1, 2, 5, 6, 100, api.MaxPairs} {
		d := fresh(t, most, nil)
		for i := range most {
			wantTurn(t, "a put", d.Begin(api.GoalPut, i, i, -i).Step(), done(false, -i, i))
		}
		wantTurn(t, "one more", d.Begin(api.GoalPut, most, most, 0).Step(), full())
		wantTurn(t, "one more", d.Begin(api.GoalKeep, -1, -1, 0).Step(), full())
		if d.Len() != most || len(d.Pairs()) != most || d.Version() != most {
			t.Errorf("%d pairs: Len %d, %d Pairs, Version %d", most, d.Len(), len(d.Pairs()), d.Version())
		}
	}
}

func TestP8_1WhatItTells(t *testing.T) {
	d := filled(t, 9, nil, 7, 7, -1)
	mustDelete(t, d, 7, 1)
	mustPut(t, d, 4, 4, 40)
	want := []api.Entry{
		{Live: true, Hash: 7, Key: 2, Value: 20, Birth: 1},
		{Live: true, Hash: -1, Key: 3, Value: 30, Birth: 2},
		{Live: true, Hash: 4, Key: 4, Value: 40, Birth: 3},
	}
	if got := d.Pairs(); !slices.Equal(got, want) || d.Len() != 3 {
		t.Errorf("Pairs: got %+v, want %+v", got, want)
	}
	wantVersion(t, "four puts, a delete", d, 5)
	// The trails: 7 4 5 2 ..; of -1, whose shifted word is 2^59 - 1: 7 3 ..; of 4: 4 5 2 ..
	sight := api.TableSight{
		Log: 3, Width: 1, Cells: []int{-1, -1, -1, 2, 1, 3, -1, -2},
		Entries: append([]api.Entry{{}}, want...), Live: 3, Births: 4, Made: 1,
	}
	if got := d.Sight(); !sameSight(got, sight) {
		t.Errorf("Sight: got %+v, want %+v", got, sight)
	}
}

// TestPlaces: the entries of its table, of the dead ones the Birth alone.
func TestPlaces(t *testing.T) {
	d := filled(t, 9, nil, 7, 7, -1)
	mustDelete(t, d, 7, 2)
	want := []api.Entry{
		{Live: true, Hash: 7, Key: 1, Value: 10, Birth: 0},
		{Birth: 1},
		{Live: true, Hash: -1, Key: 3, Value: 30, Birth: 2},
		{},
	}
	for i, e := range want {
		if got := d.Place(i); got != e {
			t.Errorf("Place(%d): got %+v, want %+v", i, got, e)
		}
	}
	var none *probe.Dict
	var zero probe.Dict
	if d.Places() != 3 || none.Places() != 0 || zero.Places() != 0 {
		t.Errorf("Places: %d, of a nil Dict %d, of a zero one %d", d.Places(), none.Places(), zero.Places())
	}
	if none.Place(0) != (api.Entry{}) || zero.Place(0) != (api.Entry{}) {
		t.Error("Place of a nil Dict, of a zero one")
	}
}

// TestAdd: a pair comes in behind the others as a put of a new key would have
// it, but nothing is sought.
func TestAdd(t *testing.T) {
	m := &meter.Meter{}
	d, other := fresh(t, 40, m), fresh(t, 40, nil)
	for i := range 40 {
		hash := []int{0, 3, 224, -1, math.MinInt}[i%5]
		if number, ok := d.Add(hash, i, -i); number != i || !ok {
			t.Fatalf("Add %d: %d, %v", i, number, ok)
		}
		mustPut(t, other, hash, i, -i)
		if d.Version() != i+1 || !slices.Equal(d.Pairs(), other.Pairs()) || !sameSight(d.Sight(), other.Sight()) {
			t.Fatalf("Add %d: it is %+v then, of the version %d", i, d.Sight(), d.Version())
		}
	}
	if got := m.Read(); got != (api.Counts{Tables: d.Sight().Made}) {
		t.Errorf("the Meter has %+v", got)
	}
	if number, ok := d.Add(7, 40, 0); number != -1 || ok || d.Version() != 40 || d.Len() != 40 {
		t.Errorf("Add to a full Dict: %d, %v", number, ok)
	}
	d.First()
	if number, ok := d.Add(3, 1, 8); number != 40 || !ok { // nobody asks whether the key is there
		t.Errorf("Add of a key that is there: %d, %v", number, ok)
	}
	waits := other.Begin(api.GoalGet, 3, 99, 0)
	wantTurn(t, "a get", waits.Step(), ask(1))
	other.First()
	other.Add(3, 99, 5)
	waits.Tell(true)
	wantTurn(t, "it begins anew", waits.Step(), ask(1))
	var none *probe.Dict
	var zero probe.Dict
	for _, x := range []*probe.Dict{none, &zero, fresh(t, 0, nil)} {
		if number, ok := x.Add(1, 2, 3); number != -1 || ok || x.Version() != 0 || x.Len() != 0 {
			t.Errorf("Add where there may be no pair: %d, %v", number, ok)
		}
	}
}

func TestP8_7Clear(t *testing.T) {
	m := &meter.Meter{}
	d, y := filled(t, 3, m, 7, 7, 1), newModel(3, nil)
	for i := range 3 {
		y.add([]int{7, 7, 1}[i], i+1, 10*(i+1))
	}
	for range 3 { // one that is cleared already is changed again
		m.Take()
		d.Clear()
		y.clear()
		wantDict(t, "Clear", d, y)
		if m.Read() != (api.Counts{Tables: 1}) {
			t.Errorf("Clear: the Meter has %+v", m.Read())
		}
	}
	wantVersion(t, "three puts, three times Clear", d, 6)
	mustPut(t, d, 7, 1, 2)
	if got := d.Pairs()[0].Birth; got != 3 {
		t.Errorf("Clear: the births go on: got %d", got)
	}
	mustPut(t, d, 7, 2, 2)
	mustPut(t, d, 7, 3, 2)
	if turn, _ := run(d.Begin(api.GoalPut, 7, 4, 2)); turn != full() {
		t.Errorf("a cleared Dict may have as many pairs: got %+v", turn)
	}
}

// ends are First and Last; nth is the place, among n pairs, of the one that is taken out behind i others.
var ends = []struct {
	name string
	take func(d *probe.Dict) (api.Entry, api.Errno)
	nth  func(i, n int) int
}{
	{"First", (*probe.Dict).First, func(i, n int) int { return i }},
	{"Last", (*probe.Dict).Last, func(i, n int) int { return n - 1 - i }},
}

func TestP8_7FirstAndLastOfNoPair(t *testing.T) {
	for _, end := range ends {
		refused := func(what string, d *probe.Dict) {
			t.Helper()
			version, sight := d.Version(), d.Sight()
			for range 2 {
				if got, e := end.take(d); got != (api.Entry{}) || e != api.ErrNone {
					t.Errorf("%s of %s: got %+v, error %d", end.name, what, got, e)
				}
			}
			if d.Version() != version || !sameSight(d.Sight(), sight) {
				t.Errorf("%s of %s has changed something", end.name, what)
			}
		}
		refused("a new Dict", fresh(t, 4, nil))
		refused("a Dict that may have no pair", fresh(t, 0, nil))
		d := filled(t, 4, nil, 7)
		mustDelete(t, d, 7, 1)
		refused("a Dict whose one entry is dead", d)
		d = filled(t, 4, nil, 7, 7)
		d.Clear()
		refused("a Dict that was cleared", d)
	}
}

// TestP8_7FirstAndLast takes out all pairs, with dead entries at the beginning, at the end and between.
func TestP8_7FirstAndLast(t *testing.T) {
	for _, end := range ends {
		for _, dead := range [][]int{{}, {0}, {4}, {0, 1}, {3, 4}, {2}, {0, 4}, {0, 1, 2, 3}, {1, 2, 3, 4}, {0, 1, 3, 4}} {
			d, y := fresh(t, 5, nil), newModel(5, nil)
			for i := range 5 {
				mustPut(t, d, i%2, i, -i)
				y.add(i%2, i, -i)
			}
			for n, i := range dead {
				mustDelete(t, d, i%2, i)
				y.take(i - n)
			}
			for range 6 - len(dead) {
				want, e2 := y.take(end.nth(0, len(y.pairs)))
				got, e := end.take(d)
				if got != want || e != e2 {
					t.Fatalf("%s, dead %v: got %+v, error %d, want %+v, %d", end.name, dead, got, e, want, e2)
				}
				wantDict(t, end.name, d, y)
			}
		}
	}
}

func TestP8_7FirstAndLastByHand(t *testing.T) {
	for _, end := range ends {
		d := filled(t, 2, nil, 7)
		if got, e := end.take(d); got != (api.Entry{Live: true, Hash: 7, Key: 1, Value: 10}) || e != api.OK {
			t.Errorf("%s of one pair: got %+v, error %d", end.name, got, e)
		}
		wantKeys(t, end.name+" of one pair", d)
		wantVersion(t, end.name+" of one pair", d, 2)
	}
	d := filled(t, 4, nil, 7, 7, 1, -1)
	mustDelete(t, d, 7, 1)
	mustDelete(t, d, -1, 4)
	if got, e := d.First(); got != (api.Entry{Live: true, Hash: 7, Key: 2, Value: 20, Birth: 1}) || e != api.OK {
		t.Errorf("First behind a dead entry: got %+v, error %d", got, e)
	}
	if got, e := d.Last(); got != (api.Entry{Live: true, Hash: 1, Key: 3, Value: 30, Birth: 2}) || e != api.OK {
		t.Errorf("Last ahead of a dead entry: got %+v, error %d", got, e)
	}
	wantVersion(t, "four puts, two deletes, First and Last", d, 8)
}

// TestP8_7Draining: many pairs, taken out one by one.
func TestP8_7Draining(t *testing.T) {
	const many = 20000
	for _, end := range ends {
		d := fresh(t, many, nil)
		for i := range many {
			d.Begin(api.GoalPut, i, i, i).Step()
		}
		for i := range many {
			if got, e := end.take(d); got.Key != end.nth(i, many) || e != api.OK || d.Len() != many-i-1 {
				t.Fatalf("%s: got %+v, error %d, want the key %d", end.name, got, e, end.nth(i, many))
			}
		}
	}
}

func TestP8_7Copy(t *testing.T) {
	m := &meter.Meter{}
	d, y := filled(t, 4, m, 7, 7, 1, 15), newModel(4, nil)
	for i, hash := range []int{7, 7, 1, 15} {
		y.add(hash, i+1, 10*(i+1))
	}
	mustDelete(t, d, 7, 1)
	y.take(0)
	m.Take()
	c := d.Copy()
	if m.Read() != (api.Counts{Tables: 1}) {
		t.Errorf("Copy: the Meter has %+v", m.Read())
	}
	wantDict(t, "Copy", c, y.copy())
	wantDict(t, "what was copied", d, y)
	wantVersion(t, "Copy", c, 0)
	mustPut(t, c, 3, 9, 90)
	wantTurn(t, "Copy: it may have as many pairs", c.Begin(api.GoalPut, 4, 10, 100).Step(), full())
	wantKeys(t, "the copy, changed", c, 2, 3, 4, 9)
	wantDict(t, "what was copied, the copy changed", d, y)
	want := c.Sight()
	d.Clear()
	mustPut(t, d, 5, 11, 110)
	if !sameSight(c.Sight(), want) {
		t.Errorf("the copy has changed with what was copied: %+v", c.Sight())
	}
	m.Take()
	c.Begin(api.GoalGet, 5, 0, 0).Step()
	d.Begin(api.GoalGet, 5, 11, 0).Step()
	if m.Take().Cells < 2 {
		t.Error("Copy: it has the same Meter")
	}
	wantDict(t, "Copy of no pair", fresh(t, 2, nil).Copy(), newModel(2, nil))
}

// TestP8_7CopyAndMachines: a machine is of the Dict that it was begun with.
func TestP8_7CopyAndMachines(t *testing.T) {
	d := filled(t, 4, nil, 7, 7)
	m := d.Begin(api.GoalGet, 7, 9, 0)
	wantTurn(t, "a machine", m.Step(), ask(1))
	c := d.Copy()
	n := c.Begin(api.GoalGet, 7, 9, 0)
	wantTurn(t, "one of the copy", n.Step(), ask(1))
	c.Clear()
	wantTell(t, "a machine", m, true, api.OK)
	wantTurn(t, "the copy was cleared", m.Step(), done(true, 10, 0))
	wantTell(t, "one of the copy", n, true, api.OK)
	wantTurn(t, "the copy was cleared", n.Step(), done(false, 0, -1))
}

func TestP8_9NilDict(t *testing.T) {
	var d *probe.Dict
	for _, goal := range []int{api.GoalGet, api.GoalPut, api.GoalDelete, api.GoalKeep, 0, 9} {
		if d.Begin(goal, 1, 2, 3) != nil {
			t.Errorf("Begin(%d) of a nil Dict", goal)
		}
	}
	d.Clear()
	if d.Copy() != nil || d.Len() != 0 || d.Version() != 0 || len(d.Pairs()) != 0 || !sameSight(d.Sight(), api.TableSight{}) {
		t.Error("Copy, Len, Version, Pairs, Sight of a nil Dict")
	}
	for _, end := range ends {
		if got, e := end.take(d); got != (api.Entry{}) || e != api.ErrArg {
			t.Errorf("%s of a nil Dict: got %+v, error %d", end.name, got, e)
		}
	}
}

// TestP8_9ZeroDict plays each call, as the first one, with a zero Dict and with one that may have no pair.
func TestP8_9ZeroDict(t *testing.T) {
	calls := []struct {
		name string
		do   func(d *probe.Dict) api.Turn
	}{
		{"Len", func(d *probe.Dict) api.Turn { return api.Turn{Key: d.Len()} }},
		{"Version", func(d *probe.Dict) api.Turn { return api.Turn{Key: d.Version()} }},
		{"Pairs", func(d *probe.Dict) api.Turn { return api.Turn{Key: len(d.Pairs())} }},
		{"Sight", func(d *probe.Dict) api.Turn { return api.Turn{Key: len(d.Sight().Cells)} }},
		{"get", func(d *probe.Dict) api.Turn { return d.Begin(api.GoalGet, 1, 2, 3).Step() }},
		{"put", func(d *probe.Dict) api.Turn { return d.Begin(api.GoalPut, 1, 2, 3).Step() }},
		{"delete", func(d *probe.Dict) api.Turn { return d.Begin(api.GoalDelete, 1, 2, 3).Step() }},
		{"keep", func(d *probe.Dict) api.Turn { return d.Begin(api.GoalKeep, 1, 2, 3).Step() }},
		{"Scan", func(d *probe.Dict) api.Turn {
			m := d.Begin(api.GoalGet, 1, 2, 3)
			m.Step()
			return api.Turn{Key: m.Scan(), Value: m.Scans()}
		}},
		{"Clear", func(d *probe.Dict) api.Turn { d.Clear(); return api.Turn{Key: d.Version()} }},
		{"First", func(d *probe.Dict) api.Turn { _, e := d.First(); return api.Turn{Key: int(e)} }},
		{"Last", func(d *probe.Dict) api.Turn { _, e := d.Last(); return api.Turn{Key: int(e)} }},
		{"Copy", func(d *probe.Dict) api.Turn { return d.Copy().Begin(api.GoalPut, 1, 2, 3).Step() }},
	}
	for _, c := range calls {
		var zero probe.Dict
		made := fresh(t, 0, nil)
		wantTurn(t, c.name+" of a zero Dict", c.do(&zero), c.do(made))
		if zero.Version() != made.Version() || !sameSight(zero.Sight(), made.Sight()) {
			t.Errorf("%s of a zero Dict: it is %+v then", c.name, zero.Sight())
		}
		wantTurn(t, "a put behind "+c.name, zero.Begin(api.GoalPut, 1, 1, 1).Step(), full())
	}
}

func TestP8_14NewMemory(t *testing.T) {
	d, y := filled(t, 9, nil, 7, 7, 1), newModel(9, nil)
	for i, hash := range []int{7, 7, 1} {
		y.add(hash, i+1, 10*(i+1))
	}
	pairs, sight := d.Pairs(), d.Sight()
	pairs2, sight2 := d.Pairs(), d.Sight()
	spoil(pairs)
	spoil(sight.Entries)
	for i := range sight.Cells {
		sight.Cells[i] = 3
	}
	_ = append(sight.Cells, 3)
	wantDict(t, "what it answered was spoilt", d, y)
	if !slices.Equal(pairs2, y.pairs) || !sameSight(sight2, y.table.Sight()) {
		t.Error("what it answered was spoilt by another answer")
	}
	turn, asked := run(d.Begin(api.GoalGet, 7, 9, 0))
	if turn != done(false, 0, -1) || !slices.Equal(asked, []int{1, 2}) {
		t.Errorf("a machine behind that: %+v, asked %v", turn, asked)
	}
	ahead, aheadPairs := y.table.Sight(), slices.Clone(y.pairs)
	d.Begin(api.GoalPut, 7, 1, 99).Step()
	d.Last()
	mustPut(t, d, 3, 12, 120)
	if !slices.Equal(pairs2, aheadPairs) || !sameSight(sight2, ahead) {
		t.Error("what was answered has changed with the Dict")
	}
}

// spoil writes over a row of entries, its spare room too.
func spoil(row []api.Entry) {
	row = row[:cap(row)]
	for i := range row {
		row[i] = api.Entry{Live: true, Hash: 9, Key: 9, Value: 9, Birth: 9}
	}
}

// TestMeters: what is counted is the tables and the cells of all scans; without a Meter all comes the same.
func TestMeters(t *testing.T) {
	m := &meter.Meter{}
	d, plain := fresh(t, 100, m), fresh(t, 100, nil)
	want := api.Counts{Tables: 1}
	for i := range 60 {
		hash := []int{0, 3, 224, -1, math.MinInt}[i%5]
		a, b := d.Begin(api.GoalPut, hash, i, i), plain.Begin(api.GoalPut, hash, i, i)
		turn, asked := run(a)
		turn2, asked2 := run(b)
		if turn != turn2 || !slices.Equal(asked, asked2) || a.Scan() != b.Scan() {
			t.Fatalf("without a Meter: %+v, with one %+v", turn2, turn)
		}
		want.Cells += a.Scan()
	}
	want.Tables = d.Sight().Made
	if want.Tables < 3 || m.Read() != want {
		t.Errorf("the Meter has %+v, want %+v", m.Read(), want)
	}
	m.Take()
	d.Pairs()
	d.Sight()
	d.First()
	d.Last()
	d.Begin(api.GoalGet, 0, 0, 0)
	if m.Take() != (api.Counts{}) {
		t.Error("what seeks nothing is not counted")
	}
	if sight := plain.Sight(); sight.Live != 60 || !sameSight(sight, replay(60).Sight()) {
		t.Errorf("Sight: %+v", sight)
	}
}

// replay is a table of the entries that TestMeters puts in.
func replay(n int) *table.Table {
	x := table.New(nil)
	for i := range n {
		x.Add([]int{0, 3, 224, -1, math.MinInt}[i%5], i, i)
	}
	return x
}

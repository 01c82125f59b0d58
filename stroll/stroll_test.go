package stroll_test

import (
	"math"
	"strconv"
	"strings"
	"testing"

	"lexicon/api"
	"lexicon/meter"
	"lexicon/probe"
	"lexicon/stroll"
)

// hashOf lets some keys have one hash.
func hashOf(key int) int { return key % 5 }

// run goes through a machine's turns; two keys of unlike numbers are never the same.
func run(m *probe.Machine) api.Turn {
	turn := m.Step()
	for turn.Kind == api.TurnAsk {
		m.Tell(false)
		turn = m.Step()
	}
	return turn
}

func put(d *probe.Dict, key, value int) {
	run(d.Begin(api.GoalPut, hashOf(key), key, value))
}

func take(d *probe.Dict, key int) {
	run(d.Begin(api.GoalDelete, hashOf(key), key, 0))
}

// filled is a Dict of the pairs of the keys, each with ten times that as its value.
func filled(t *testing.T, m *meter.Meter, keys ...int) *probe.Dict {
	t.Helper()
	d, e := probe.New(api.MaxPairs, m)
	if e != api.OK {
		t.Fatalf("probe.New: error %d", e)
	}
	for _, key := range keys {
		put(d, key, 10*key)
	}
	return d
}

// row is the keys from one to another.
func row(from, to int) []int {
	var keys []int
	for key := from; key <= to; key++ {
		keys = append(keys, key)
	}
	return keys
}

// next is what Next tells: a key, "end" or "size".
func next(t *testing.T, s *stroll.Stroll) string {
	t.Helper()
	entry, e := s.Next()
	if e == api.OK {
		if !entry.Live {
			t.Errorf("Next: a dead entry: %+v", entry)
		}
		return strconv.Itoa(entry.Key)
	}
	if entry != (api.Entry{}) {
		t.Errorf("Next: %+v beside the error %d", entry, e)
	}
	switch e {
	case api.ErrEnd:
		return "end"
	case api.ErrSize:
		return "size"
	}
	t.Errorf("Next: error %d", e)
	return ""
}

// play plays a script: "n" is Next, "+4" puts the key 4 in, "-4" takes it out, "~4" does that and puts it in again, "=4" turns its value; and first, last, clear. It is what Next told.
func play(t *testing.T, d *probe.Dict, s *stroll.Stroll, script string) string {
	t.Helper()
	var told []string
	for _, word := range strings.Fields(script) {
		key, _ := strconv.Atoi(word[1:])
		switch word {
		case "n":
			told = append(told, next(t, s))
			continue
		case "first":
			d.First()
			continue
		case "last":
			d.Last()
			continue
		case "clear":
			d.Clear()
			continue
		}
		switch word[0] {
		case '+', '=':
			put(d, key, 10*key)
		case '-':
			take(d, key)
		case '~':
			take(d, key)
			put(d, key, 10*key)
		default:
			t.Fatalf("the word %q", word)
		}
	}
	return strings.Join(told, " ")
}

// scene is a script that is played with a new Dict, forwards and back.
type scene struct {
	keys          []int
	script        string
	forwards, aft string // what is told
}

func playAll(t *testing.T, scenes []scene) {
	t.Helper()
	for _, x := range scenes {
		for _, back := range []bool{false, true} {
			want := x.forwards
			if back {
				want = x.aft
			}
			d := filled(t, nil, x.keys...)
			if got := play(t, d, stroll.New(d, back), x.script); got != want {
				t.Errorf("keys %v, back %t, %q: got %q, want %q", x.keys, back, x.script, got, want)
			}
		}
	}
}

func TestP9_1NilDict(t *testing.T) {
	for _, back := range []bool{false, true} {
		s := stroll.New(nil, back)
		if s == nil {
			t.Fatalf("New(nil, %t) is nil", back)
		}
		if got := play(t, nil, s, "n n n"); got != "end end end" {
			t.Errorf("New(nil, %t): got %q", back, got)
		}
	}
}

// TestP9_1WhatItKeeps: how many pairs there are at New, not at the first Next.
func TestP9_1WhatItKeeps(t *testing.T) {
	playAll(t, []scene{
		{nil, "+1 n n", "size size", "size size"},
		{row(1, 2), "+3 n n", "size size", "size size"},
		{row(1, 2), "-1 n n", "size size", "size size"},
		{row(1, 2), "clear n n", "size size", "size size"},
		{row(1, 2), "+3 -3 n n n", "1 2 end", "2 1 end"},
		{row(1, 2), "+3 -1 n n n", "2 3 end", "3 2 end"},
		{row(1, 2), "clear +7 +8 n n n", "7 8 end", "8 7 end"},
		{nil, "+1 -1 n n", "end end", "end end"},
		{nil, "clear n", "end", "end"},
	})
}

func TestP9_1ZeroDict(t *testing.T) {
	for _, back := range []bool{false, true} {
		var d probe.Dict
		if got := play(t, &d, stroll.New(&d, back), "n n"); got != "end end" {
			t.Errorf("of a zero Dict, back %t: got %q", back, got)
		}
		if d.Version() != 0 || d.Len() != 0 {
			t.Errorf("a zero Dict: Version %d, Len %d", d.Version(), d.Len())
		}
	}
}

func TestP9_2EndForGood(t *testing.T) {
	playAll(t, []scene{
		{nil, "n n n", "end end end", "end end end"},
		{nil, "n +1 n -1 n", "end end end", "end end end"},
		{row(1, 1), "n n n n", "1 end end end", "1 end end end"},
		{row(1, 1), "n n +2 n -2 n", "1 end end end", "1 end end end"},
		{row(1, 1), "n n -1 n +1 n", "1 end end end", "1 end end end"},
		{row(1, 3), "n n n n ~1 ~3 n clear n +7 +8 +9 n", "1 2 3 end end end end", "3 2 1 end end end end"},
	})
}

func TestP9_2BrokenForGood(t *testing.T) {
	playAll(t, []scene{
		{row(1, 3), "n +4 n n -4 n n", "1 size size size size", "3 size size size size"},
		{row(1, 3), "n -2 n +2 n n", "1 size size size", "3 size size size"},
		{row(1, 3), "n n n +4 n -4 n", "1 2 3 size size", "3 2 1 size size"},
		{row(1, 3), "n n n -2 n +2 n", "1 2 3 size size", "3 2 1 size size"},
		{row(1, 1), "+2 n -2 n", "size size", "size size"},
		{row(1, 1), "-1 n +1 n", "size size", "size size"},
		{row(1, 1), "n -1 n +1 n", "1 size size", "1 size size"},
		{row(1, 3), "n clear n clear +1 +2 +3 n", "1 size size", "3 size size"},
		{row(1, 3), "n first n last n", "1 size size", "3 size size"},
	})
}

// TestP9_2UnseenSizes: a size that Next has not seen breaks nothing.
func TestP9_2UnseenSizes(t *testing.T) {
	playAll(t, []scene{
		{row(1, 3), "n +4 -4 n n n", "1 2 3 end", "3 2 1 end"},
		{row(1, 3), "n +4 -2 n n n", "1 3 4 end", "3 1 end end"},
		{row(1, 3), "n +4 -1 n n n", "1 2 3 4", "3 2 end end"},
		{row(1, 3), "n +4 -3 n n n", "1 2 4 end", "3 2 1 end"},
		{row(1, 3), "n first +4 n n n n", "1 2 3 4 end", "3 2 end end end"},
		{row(1, 3), "n last +4 n n n n", "1 2 4 end end", "3 2 1 end end"},
		{row(1, 3), "n clear +1 +2 +3 n n n n", "1 1 2 3 end", "3 end end end end"},
		{row(1, 3), "n n n first +4 n n", "1 2 3 4 end", "3 2 1 end end"},
	})
}

func TestP9_3NilAndZeroStroll(t *testing.T) {
	var none *stroll.Stroll
	var zero stroll.Stroll
	for _, s := range []*stroll.Stroll{none, &zero, {}} {
		if got := play(t, nil, s, "n n n"); got != "end end end" {
			t.Errorf("a nil or a zero Stroll: got %q", got)
		}
	}
}

// walked is all that a new walk tells, up to its end.
func walked(t *testing.T, d *probe.Dict, back bool) []api.Entry {
	t.Helper()
	var told []api.Entry
	s := stroll.New(d, back)
	for range d.Len() + 1 {
		entry, e := s.Next()
		if e == api.ErrEnd {
			return told
		}
		if e != api.OK {
			t.Fatalf("Next: error %d", e)
		}
		told = append(told, entry)
	}
	t.Fatalf("it does not end: it has told %+v", told)
	return nil
}

// wantWhole: walks tell just the Dict's pairs.
func wantWhole(t *testing.T, what string, d *probe.Dict) {
	t.Helper()
	pairs := d.Pairs()
	forwards, aft := walked(t, d, false), walked(t, d, true)
	if len(forwards) != len(pairs) || len(aft) != len(pairs) {
		t.Fatalf("%s: %d and %d told of %d pairs", what, len(forwards), len(aft), len(pairs))
	}
	for i, want := range pairs {
		if forwards[i] != want || aft[len(pairs)-1-i] != want {
			t.Fatalf("%s: the pair %d: %+v, back %+v, want %+v", what, i, forwards[i], aft[len(pairs)-1-i], want)
		}
	}
}

func TestP9_4Whole(t *testing.T) {
	for n := range 40 {
		wantWhole(t, "new ones", filled(t, nil, row(1, n)...))
	}
	d := filled(t, nil)
	for i, key := range []int{0, -1, math.MinInt, math.MaxInt, 7} {
		run(d.Begin(api.GoalPut, []int{math.MinInt, -1, 0, math.MaxInt, -1}[i], key, -key))
		wantWhole(t, "keys and hashes of any size", d)
	}
}

func TestP9_4DeadEntries(t *testing.T) {
	for _, dead := range [][]int{{1}, {10}, {1, 2, 3}, {8, 9, 10}, {5}, {4, 5, 6}, {1, 10}, {1, 2, 5, 6, 9, 10}, {2, 4, 6, 8, 10}, row(1, 9), row(2, 10), row(1, 10)} {
		d := filled(t, nil, row(1, 10)...)
		for _, key := range dead {
			take(d, key)
		}
		wantWhole(t, "dead entries", d)
		put(d, 1, 5)
		wantWhole(t, "dead entries, and one more", d)
		d = d.Copy()
		wantWhole(t, "a copy", d)
		d.Clear()
		wantWhole(t, "none", d)
		put(d, 3, 5)
		put(d, 2, 5)
		wantWhole(t, "two behind Clear", d)
	}
}

func TestP9_4TurnedValues(t *testing.T) {
	for _, back := range []bool{false, true} {
		d := filled(t, nil, 1, 2, 3)
		s := stroll.New(d, back)
		put(d, 1, 11)
		put(d, 3, 33)
		for i, key := range []int{1, 2, 3} {
			if back {
				key = 3 - i
			}
			value := map[int]int{1: 11, 2: 22, 3: 33}[key]
			want := api.Entry{Live: true, Hash: hashOf(key), Key: key, Value: value, Birth: key - 1}
			put(d, 2, 22)
			if got, e := s.Next(); got != want || e != api.OK {
				t.Errorf("back %t: got %+v, error %d, want %+v", back, got, e, want)
			}
			put(d, key, -1) // it has been told
		}
		if got := next(t, s); got != "end" {
			t.Errorf("back %t: got %q behind the last one", back, got)
		}
	}
	playAll(t, []scene{{row(1, 3), "=2 n =1 n =3 n =2 n", "1 2 3 end", "3 2 1 end"}})
}

func TestP9_5TakenOutAndPutInAgain(t *testing.T) {
	playAll(t, []scene{
		// Nothing was told so far.
		{row(1, 3), "~1 n n n n", "2 3 1 end", "1 3 2 end"},
		{row(1, 3), "~2 n n n n", "1 3 2 end", "2 3 1 end"},
		{row(1, 3), "~3 n n n n", "1 2 3 end", "3 2 1 end"},
		{row(1, 1), "~1 n n", "1 end", "1 end"},
		// Told already forwards, not yet told back, and the other way round.
		{row(1, 3), "n ~1 n n n n", "1 2 3 1 end", "3 2 end end end"},
		{row(1, 3), "n ~2 n n n n", "1 3 2 end end", "3 1 end end end"},
		{row(1, 3), "n ~3 n n n n", "1 2 3 end end", "3 2 1 end end"},
		{row(1, 3), "n n ~2 n n n", "1 2 3 2 end", "3 2 1 end end"},
		{row(1, 3), "n n n ~1 n n", "1 2 3 1 end", "3 2 1 end end"},
		{row(1, 3), "n n n ~3 n n", "1 2 3 3 end", "3 2 1 end end"},
		{row(1, 1), "n ~1 n ~1 n ~1 n n", "1 1 1 1 end", "1 end end end end"},
		{row(1, 3), "n ~1 n ~2 n ~3 n ~1 n", "1 2 3 1 2", "3 2 end end end"},
		// All that it has not told.
		{row(1, 3), "n ~2 ~3 n n n", "1 2 3 end", "3 1 end end"},
		{row(1, 3), "n ~2 ~1 n n n n", "1 3 2 1 end", "3 end end end end"},
	})
}

// TestP9_5IndexTables: so many pairs are put in and taken out that index tables are made anew, once and again, and the entries numbered anew.
func TestP9_5IndexTables(t *testing.T) {
	for _, back := range []bool{false, true} {
		d := filled(t, nil, row(1, 40)...)
		for key := 1; key <= 40; key += 3 {
			take(d, key)
		}
		pairs := d.Pairs()
		made := d.Sight().Made
		s := stroll.New(d, back)
		for i := range pairs {
			want := pairs[i]
			if back {
				want = pairs[len(pairs)-1-i]
			}
			for key := range 100 {
				put(d, 1000+key, 0)
				take(d, 1000+key)
			}
			if got, e := s.Next(); got != want || e != api.OK {
				t.Fatalf("back %t: got %+v, error %d, want %+v", back, got, e, want)
			}
		}
		if got := play(t, d, s, "n n"); got != "end end" {
			t.Errorf("back %t: got %q behind the last one", back, got)
		}
		if d.Sight().Made < made+len(pairs) {
			t.Errorf("%d index tables were made", d.Sight().Made-made)
		}
	}
}

// TestP9_5PutAnewOnTheWay: each pair that is told is taken out and put in again; forwards there is no end of it.
func TestP9_5PutAnewOnTheWay(t *testing.T) {
	const many = 50
	d := filled(t, nil, row(0, many-1)...)
	s := stroll.New(d, false)
	for i := range 40 * many {
		entry, e := s.Next()
		if want := i % many; entry.Key != want || entry.Birth != i || e != api.OK {
			t.Fatalf("forwards: got %+v, error %d, want the key %d", entry, e, want)
		}
		take(d, entry.Key)
		put(d, entry.Key, i)
	}
	d = filled(t, nil, row(0, many-1)...)
	s = stroll.New(d, true)
	for i := range many {
		entry, e := s.Next()
		if want := many - 1 - i; entry.Key != want || entry.Birth != want || e != api.OK {
			t.Fatalf("back: got %+v, error %d, want the key %d", entry, e, want)
		}
		take(d, entry.Key)
		put(d, entry.Key, i)
	}
	if got := next(t, s); got != "end" {
		t.Errorf("back: got %q behind the last one", got)
	}
}

// TestP9_6InTurns: Strolls of one Dict, and of others, know nothing of each other.
func TestP9_6InTurns(t *testing.T) {
	d, other := filled(t, nil, 1, 2, 3), filled(t, nil, 7, 8)
	a, b, c := stroll.New(d, false), stroll.New(d, false), stroll.New(d, true)
	x := stroll.New(other, true)
	rows := []struct {
		s      *stroll.Stroll
		script string
		want   string
	}{
		{a, "n n", "1 2"}, {b, "n", "1"}, {c, "n n n", "3 2 1"}, {x, "n", "8"},
		{a, "n n", "3 end"}, {b, "~1 n", "2"}, {c, "n", "end"}, {x, "n", "7"},
		{b, "n n +4", "3 1"}, {a, "n", "end"}, {c, "n", "end"}, {b, "n", "size"}, {x, "n", "end"},
	}
	for _, r := range rows {
		if got := play(t, d, r.s, r.script); got != r.want {
			t.Errorf("%q: got %q, want %q", r.script, got, r.want)
		}
	}
	e := stroll.New(d, false) // one that is begun now has the size of now
	if got := play(t, d, e, "n n n n n"); got != "2 3 1 4 end" {
		t.Errorf("one that was begun later: got %q", got)
	}
}

// TestP9_6Copies: a Stroll is of the Dict that it was made of.
func TestP9_6Copies(t *testing.T) {
	d := filled(t, nil, 1, 2, 3)
	s := stroll.New(d, false)
	c := d.Copy()
	c.Clear()
	if got := play(t, c, s, "n +9 n n n"); got != "1 2 3 end" {
		t.Errorf("got %q", got)
	}
}

// TestP9_6ChangesNothing: what the Dict is, its version, and what its Meter has counted.
func TestP9_6ChangesNothing(t *testing.T) {
	m := &meter.Meter{}
	d := filled(t, m, row(1, 30)...)
	for _, key := range []int{1, 2, 15, 16, 30} {
		take(d, key)
	}
	version, sight, counted := d.Version(), d.Sight(), m.Read()
	waits := d.Begin(api.GoalGet, hashOf(3), 3000, 0)
	asked := waits.Step()
	counted.Cells += waits.Scan()
	for _, back := range []bool{false, true} {
		s := stroll.New(d, back)
		for range 40 {
			s.Next()
		}
		if d.Version() != version || !sameSight(d.Sight(), sight) || m.Read() != counted {
			t.Errorf("back %t: Version %d, %+v, counted %+v", back, d.Version(), d.Sight(), m.Read())
		}
	}
	if waits.Tell(false); waits.Step() == asked || waits.Scans() != 1 {
		t.Error("a machine that waited meanwhile begins anew")
	}
	version = d.Version()
	s := stroll.New(d, false)
	put(d, 99, 0)
	sight, counted = d.Sight(), m.Read()
	if got := play(t, d, s, "n n"); got != "size size" || d.Version() != version+1 || !sameSight(d.Sight(), sight) || m.Read() != counted {
		t.Errorf("one that breaks: got %q, Version %d, counted %+v", got, d.Version(), m.Read())
	}
}

// TestP9_6NewMemory: what was told does not turn with the Dict.
func TestP9_6NewMemory(t *testing.T) {
	d := filled(t, nil, 1, 2)
	s := stroll.New(d, false)
	told, _ := s.Next()
	put(d, 1, 77)
	s.Next()
	d.Clear()
	if told != (api.Entry{Live: true, Hash: hashOf(1), Key: 1, Value: 10}) {
		t.Errorf("what was told is %+v now", told)
	}
}

// TestExamples is each row of the chapter's section, one behind the other.
func TestExamples(t *testing.T) {
	d := filled(t, nil, 1, 2, 3)
	if got := play(t, d, stroll.New(d, false), "n -2 +2 n n n"); got != "1 3 2 end" {
		t.Errorf("the first row: got %q", got)
	}
	if got := play(t, d, stroll.New(d, true), "n +4 n -4 n"); got != "2 size size" {
		t.Errorf("the second row: got %q", got)
	}
	if got := next(t, stroll.New(nil, false)); got != "end" {
		t.Errorf("the third row: got %q", got)
	}
}

// TestMany: as many pairs as a Dict may have; each Next finds its pair without going through all of them, dead entries in the way or not.
func TestMany(t *testing.T) {
	const many = api.MaxPairs
	d, _ := probe.New(many, nil)
	for key := range many {
		d.Begin(api.GoalPut, key, key, key).Step()
	}
	for key := many / 4; key < many; key++ { // leaves a long row of dead entries in the middle
		d.Begin(api.GoalDelete, key, key, 0).Step()
	}
	for key := many / 4; key < many/2; key++ {
		d.Begin(api.GoalPut, key, key, key).Step()
	}
	for _, back := range []bool{false, true} {
		s := stroll.New(d, back)
		for i := range many / 2 {
			want := i
			if back {
				want = many/2 - 1 - i
			}
			d.Begin(api.GoalPut, want, want, -i).Step()
			if entry, e := s.Next(); entry.Key != want || entry.Value != -i || e != api.OK {
				t.Fatalf("back %t: got %+v, error %d, want the key %d", back, entry, e, want)
			}
		}
		if got := next(t, s); got != "end" {
			t.Errorf("back %t: got %q behind the last one", back, got)
		}
	}
}

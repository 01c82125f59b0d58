package table_test

import (
	"math"
	"math/rand"
	"slices"
	"testing"

	"lexicon/api"
	"lexicon/meter"
	"lexicon/table"
)

// fresh is the sight of a table that was just made.
func fresh() api.TableSight {
	return api.TableSight{Log: 3, Width: 1, Cells: []int{-1, -1, -1, -1, -1, -1, -1, -1}, Made: 1}
}

func TestP7_1NewTables(t *testing.T) {
	m := &meter.Meter{}
	x := table.New(m)
	wantSight(t, "New", x, fresh())
	if m.Read() != (api.Counts{Tables: 1}) {
		t.Errorf("New: the Meter has %+v", m.Read())
	}
	wantSight(t, "New(nil)", table.New(nil), fresh())
	y := table.New(m)
	mustAdd(t, x, 1, 2, 3, 0)
	wantSight(t, "New beside another one", y, fresh())
}

// TestP7_1ZeroTables plays each call, as the first one, with a zero Table and with a New(nil).
func TestP7_1ZeroTables(t *testing.T) {
	calls := []struct {
		name string
		do   func(x *table.Table) []int
	}{
		{"Len", func(x *table.Table) []int { return []int{x.Len()} }},
		{"Add", func(x *table.Table) []int { n, e := x.Add(9, 8, 7); return []int{n, int(e)} }},
		{"Put", func(x *table.Table) []int { return []int{int(x.Put(0, 1))} }},
		{"Kill", func(x *table.Table) []int { return []int{int(x.Kill(0))} }},
		{"At", func(x *table.Table) []int { _, e := x.At(0); return []int{int(e)} }},
		{"Clear", func(x *table.Table) []int { x.Clear(); return nil }},
		{"Copy", func(x *table.Table) []int {
			c := x.Copy()
			n, e := c.Add(1, 2, 3)
			return append(c.Sight().Cells, n, int(e), c.Sight().Made, x.Len())
		}},
		{"Seek", func(x *table.Table) []int {
			s := x.Seek(0)
			i, ok := s.Next()
			if ok {
				i = 99
			}
			return []int{i, s.Visited()}
		}},
		{"All", func(x *table.Table) []int { return []int{len(gone(x))} }},
		{"Back", func(x *table.Table) []int { return []int{len(goneBack(x))} }},
		{"Sight", func(x *table.Table) []int { return x.Sight().Cells }},
	}
	for _, c := range calls {
		var zero table.Table
		made := table.New(nil)
		if got, want := c.do(&zero), c.do(made); !slices.Equal(got, want) {
			t.Errorf("%s of a zero Table: got %v, want %v", c.name, got, want)
		}
		wantSight(t, c.name+" of a zero Table", &zero, made.Sight())
		mustAdd(t, &zero, 3, 4, 5, made.Len())
	}
}

func TestP7_2Add(t *testing.T) {
	x := table.New(nil)
	mustAdd(t, x, 5, 10, 20, 0)
	mustAdd(t, x, 5, 10, 20, 1) // nothing is asked about the entry that is there
	want := api.TableSight{
		Log: 3, Width: 1, Cells: []int{-1, -1, 1, -1, -1, 0, -1, -1}, // the trail of 5: 5, 26, ..
		Entries: []api.Entry{{Live: true, Hash: 5, Key: 10, Value: 20}, {Live: true, Hash: 5, Key: 10, Value: 20, Birth: 1}},
		Live:    2, Births: 2, Made: 1,
	}
	wantSight(t, "two entries", x, want)
}

func TestP7_2AddAtAllInts(t *testing.T) {
	edges := []int{0, 1, -1, -2, math.MinInt, math.MaxInt}
	x, y := table.New(nil), newModel()
	for _, hash := range edges {
		for _, key := range edges {
			mustAdd(t, x, hash, key, -key, y.add(hash, key, -key))
			wantSight(t, "an edge", x, y.sight())
		}
	}
}

// TestP7_2WhenATableIsMade: at each row's Add there is no room; ahead of it there was, just so.
func TestP7_2WhenATableIsMade(t *testing.T) {
	rows := []struct{ entries, dead, log, width, number int }{
		{5, 0, 4, 1, 5}, // 15 cells are asked for
		{5, 1, 4, 1, 4}, // 12
		{5, 2, 4, 1, 3}, // 9
		{5, 3, 3, 1, 2}, // 6
		{5, 4, 3, 1, 1},
		{5, 5, 3, 1, 0},
		{10, 0, 5, 1, 10}, // 30
		{10, 4, 5, 1, 6},  // 18
		{10, 5, 4, 1, 5},  // 15
		{10, 7, 4, 1, 3},
		{10, 8, 3, 1, 2},
		{10, 10, 3, 1, 0},
		{21, 0, 6, 1, 21},
		{42, 0, 7, 1, 42},
		{42, 21, 6, 1, 21}, // 63
		{42, 20, 7, 1, 22}, // 66
		{85, 0, 8, 2, 85},
		{85, 43, 7, 1, 42},
		{170, 0, 9, 2, 170},
		{170, 169, 3, 1, 1},
		{21845, 0, 16, 4, 21845},
		{21845, 10923, 15, 2, 10922}, // 32766
		{21845, 10922, 16, 4, 10923}, // 32769
	}
	for _, r := range rows {
		m := &meter.Meter{}
		x, _ := filledFast(t, m, r.entries)
		ahead := x.Sight()
		if len(ahead.Entries) != len(ahead.Cells)*2/3 {
			t.Fatalf("%d entries in %d cells leave room: the test is wrong", r.entries, len(ahead.Cells))
		}
		for i := range r.dead {
			x.Kill(i)
		}
		left := gone(x)
		if x.Sight().Made != ahead.Made {
			t.Errorf("%+v: a table was made by Kill", r)
		}
		m.Take()
		mustAdd(t, x, -9, -8, -7, r.number)
		got := x.Sight()
		if got.Log != r.log || got.Width != r.width || len(got.Cells) != 1<<r.log || got.Made != ahead.Made+1 || m.Read() != (api.Counts{Tables: 1}) {
			t.Errorf("%+v: log %d, width %d, %d cells, made %d more, counted %+v", r, got.Log, got.Width, len(got.Cells), got.Made-ahead.Made, m.Read())
		}
		if slices.Contains(got.Cells, api.Dead) || got.Live != len(got.Entries) {
			t.Errorf("%+v: there is something dead still", r)
		}
		for i, old := range left {
			if got.Entries[i] != old.entry {
				t.Fatalf("%+v: entry %d: got %+v, want %+v", r, i, got.Entries[i], old.entry)
			}
		}
		if last := got.Entries[r.number]; last != (api.Entry{Live: true, Hash: -9, Key: -8, Value: -7, Birth: r.entries}) || got.Births != r.entries+1 {
			t.Errorf("%+v: the new one is %+v, births %d", r, last, got.Births)
		}
		mustAdd(t, x, 1, 1, 1, r.number+1)
		if x.Sight().Made != got.Made {
			t.Errorf("%+v: a table was made though there was room", r)
		}
	}
}

// filledFast is a table of n entries whose hashes are unlike, without a model beside it.
func filledFast(t *testing.T, m *meter.Meter, n int) (*table.Table, []api.Entry) {
	t.Helper()
	x := table.New(m)
	var want []api.Entry
	for i := range n {
		mustAdd(t, x, i, 2*i, 3*i, i)
		want = append(want, api.Entry{Live: true, Hash: i, Key: 2 * i, Value: 3 * i, Birth: i})
	}
	return x, want
}

// TestP7_2OneAheadOfATable: up to the Room no table is made, whichever entries are dead.
func TestP7_2OneAheadOfATable(t *testing.T) {
	for _, r := range rules {
		for dead := range 5 {
			x, y := filled(t, nil, 4, r.hash)
			for i := range dead {
				kill(t, x, y, i)
			}
			for i := range 3 {
				mustAdd(t, x, r.hash(4+i), i, i, y.add(r.hash(4+i), i, i))
				wantSight(t, r.name, x, y.sight())
				if i == 0 && (y.made != 1 || len(y.entries) != 5) {
					t.Fatalf("%s: a table was made at the fifth entry", r.name)
				}
			}
		}
	}
}

func TestP7_2TooBig(t *testing.T) {
	const room, third = 699050, 349525
	m := &meter.Meter{}
	x, _ := filledFast(t, m, room)
	if s := x.Sight(); s.Log != api.MaxLog || s.Made != 18 || m.Read() != (api.Counts{Tables: 18}) {
		t.Fatalf("log %d, made %d, counted %+v", s.Log, s.Made, m.Read())
	}
	s := x.Seek(third)
	refused := func(live int) {
		t.Helper()
		ahead := x.Sight()
		m.Take()
		if n, e := x.Add(1, 2, 3); n != 0 || e != api.ErrBig {
			t.Fatalf("Add to %d live entries: got %d, error %d", live, n, e)
		}
		if x.Len() != live || m.Read() != (api.Counts{}) {
			t.Fatalf("behind ErrBig: Len %d, counted %+v", x.Len(), m.Read())
		}
		wantSight(t, "behind ErrBig", x, ahead)
	}
	refused(room)
	if i, ok := s.Next(); i != third || !ok {
		t.Errorf("ErrBig ends a Seeker: got %d, %v", i, ok)
	}
	c := x.Copy()
	if s := c.Sight(); s.Log != api.MaxLog || s.Live != room || s.Made != 1 {
		t.Errorf("Copy of a full table: log %d, %d live, made %d", s.Log, s.Live, s.Made)
	}
	for i := range room - third - 1 {
		x.Kill(i)
	}
	refused(third + 1)
	x.Kill(room - 1)
	mustAdd(t, x, 1, 2, 3, third)
	if s := x.Sight(); s.Log != api.MaxLog || s.Live != third+1 || s.Births != room+1 || s.Entries[0].Hash != room-third-1 {
		t.Errorf("behind the dropping: log %d, %d live, %d births, %+v", s.Log, s.Live, s.Births, s.Entries[0])
	}
	if _, e := c.Add(1, 2, 3); e != api.ErrBig {
		t.Errorf("Add to the copy: error %d", e)
	}
	c.Clear()
	mustAdd(t, c, 1, 2, 3, 0)
}

func TestP7_3PutKillAt(t *testing.T) {
	x, y := filled(t, nil, 4, func(i int) int { return 5 })
	if e := x.Put(2, -1); e != api.OK {
		t.Fatalf("Put: error %d", e)
	}
	y.put(2, -1)
	wantSight(t, "Put", x, y.sight())
	if got, e := x.At(2); got != (api.Entry{Live: true, Hash: 5, Key: 102, Value: -1, Birth: 2}) || e != api.OK {
		t.Errorf("At: got %+v, error %d", got, e)
	}
	if e := x.Kill(1); e != api.OK {
		t.Fatalf("Kill: error %d", e)
	}
	want := api.TableSight{
		Log: 3, Width: 1, Cells: cellsHeld(5, 0, api.Dead, 2, 3),
		Entries: []api.Entry{
			{Live: true, Hash: 5, Key: 100, Value: 200},
			{},
			{Live: true, Hash: 5, Key: 102, Value: -1, Birth: 2},
			{Live: true, Hash: 5, Key: 103, Value: 203, Birth: 3},
		},
		Live: 3, Births: 4, Made: 1,
	}
	wantSight(t, "Kill", x, want)
}

// cellsHeld is 2^3 cells of which the first ones of a hash's trail hold what is given.
func cellsHeld(hash int, held ...int) []int {
	row := slices.Repeat([]int{api.Empty}, 8)
	for i, cell := range cellsOf(hash, 3, len(held)) {
		row[cell] = held[i]
	}
	return row
}

func TestP7_3WrongNumbers(t *testing.T) {
	x, y := filled(t, nil, 4, func(i int) int { return i })
	kill(t, x, y, 1)
	kill(t, x, y, 3)
	for _, n := range []int{-1, -2, 1, 3, 4, 5, 7, 8, 1 << 32, -1 << 32, math.MinInt, math.MaxInt} {
		if e := x.Put(n, 9); e != api.ErrNone {
			t.Errorf("Put(%d): error %d", n, e)
		}
		if e := x.Kill(n); e != api.ErrNone {
			t.Errorf("Kill(%d): error %d", n, e)
		}
		if got, e := x.At(n); got != (api.Entry{}) || e != api.ErrNone {
			t.Errorf("At(%d): got %+v, error %d", n, got, e)
		}
		wantSight(t, "behind ErrNone", x, y.sight())
	}
	empty := table.New(nil)
	for _, n := range []int{-1, 0, 1} {
		_, e := empty.At(n)
		if empty.Put(n, 1) != api.ErrNone || empty.Kill(n) != api.ErrNone || e != api.ErrNone {
			t.Errorf("entry %d of an empty table", n)
		}
	}
	for _, n := range []int{0, 2} {
		if _, e := x.At(n); x.Put(n, 9) != api.OK || e != api.OK || x.Kill(n) != api.OK || x.Kill(n) != api.ErrNone {
			t.Errorf("entry %d", n)
		}
	}
}

func TestP7_4LenAndClear(t *testing.T) {
	m := &meter.Meter{}
	x, y := filled(t, m, 50, func(i int) int { return 3 * i })
	for i := range 20 {
		kill(t, x, y, 2*i)
	}
	if x.Len() != 30 {
		t.Errorf("Len: got %d, want 30", x.Len())
	}
	made := x.Sight().Made
	m.Take()
	for more := 1; more <= 2; more++ { // a table that is cleared already is cleared again
		x.Clear()
		want := fresh()
		want.Births, want.Made = 50, made+more
		wantSight(t, "Clear", x, want)
		if m.Take() != (api.Counts{Tables: 1}) {
			t.Error("Clear: the Meter counts one table")
		}
	}
	mustAdd(t, x, 7, 8, 9, 0)
	if e, _ := x.At(0); e != (api.Entry{Live: true, Hash: 7, Key: 8, Value: 9, Birth: 50}) {
		t.Errorf("behind Clear: got %+v", e)
	}
}

func TestP7_4CopySizes(t *testing.T) {
	rows := []struct{ live, log, width int }{
		{0, 3, 1}, {1, 3, 1}, {5, 3, 1}, {6, 4, 1}, {10, 4, 1}, {11, 5, 1}, {21, 5, 1}, {22, 6, 1},
		{42, 6, 1}, {43, 7, 1}, {85, 7, 1}, {86, 8, 2}, {21845, 15, 2}, {21846, 16, 4},
	}
	for _, r := range rows {
		x, want := filledFast(t, nil, r.live)
		c := x.Copy().Sight()
		if c.Log != r.log || c.Width != r.width || c.Live != r.live || c.Births != r.live || c.Made != 1 || !slices.Equal(c.Entries, want) {
			t.Errorf("Copy of %d: log %d, width %d, %d live, %d births, made %d", r.live, c.Log, c.Width, c.Live, c.Births, c.Made)
		}
	}
}

func TestP7_4CopyWithDeadEntries(t *testing.T) {
	for _, r := range rules {
		for _, dead := range [][]int{{}, {0}, {9}, {0, 1, 2, 3, 4}, {5, 6, 7, 8, 9}, {1, 3, 5, 7}, {0, 1, 2, 3, 4, 5, 6, 7, 8, 9}} {
			m := &meter.Meter{}
			x, y := filled(t, m, 10, r.hash)
			for _, i := range dead {
				kill(t, x, y, i)
			}
			m.Take()
			c, d := x.Copy(), y.copy()
			if m.Read() != (api.Counts{Tables: 1}) {
				t.Errorf("%s: Copy: the Meter has %+v", r.name, m.Read())
			}
			wantSight(t, r.name+": the copy", c, d.sight())
			wantSight(t, r.name+": what was copied", x, y.sight())
			twice(t, x, y, c, d)
		}
	}
}

// twice changes a table and its copy, each in its own way.
func twice(t *testing.T, x *table.Table, y *model, c *table.Table, d *model) {
	t.Helper()
	for i := range 12 {
		mustAdd(t, c, i, -i, 0, d.add(i, -i, 0))
		kill(t, x, y, i)
		kill(t, c, d, 2*i)
		wantSight(t, "the copy, changed", c, d.sight())
		wantSight(t, "what was copied, changed", x, y.sight())
	}
}

func TestP7_4CopiesShareTheMeter(t *testing.T) {
	m := &meter.Meter{}
	x, _ := filled(t, m, 3, func(i int) int { return i })
	c := x.Copy().Copy()
	m.Take()
	c.Seek(1).Next()
	x.Seek(2).Next()
	if m.Take() != (api.Counts{Cells: 2}) {
		t.Errorf("the Meter has %+v", m.Read())
	}
	c.Clear()
	x.Clear()
	if m.Take() != (api.Counts{Tables: 2}) {
		t.Errorf("the Meter has %+v", m.Read())
	}
}

func TestP7_6AllAndBack(t *testing.T) {
	for _, dead := range [][]int{{}, {0}, {6}, {2, 3}, {0, 6}, {0, 1, 2, 3, 4, 5, 6}} {
		x, y := filled(t, nil, 7, func(i int) int { return 4 })
		for _, i := range dead {
			kill(t, x, y, i)
		}
		want := liveOnes(y.entries)
		if got := gone(x); !slices.Equal(got, want) {
			t.Errorf("All: got %+v, want %+v", got, want)
		}
		slices.Reverse(want)
		if got := goneBack(x); !slices.Equal(got, want) {
			t.Errorf("Back: got %+v, want %+v", got, want)
		}
	}
}

// TestFirstAndLast: the numbers of the entries that All and Back come to first.
func TestFirstAndLast(t *testing.T) {
	rows := []struct {
		dead        []int
		first, last int
	}{
		{nil, 0, 4}, {[]int{0}, 1, 4}, {[]int{4}, 0, 3}, {[]int{0, 1}, 2, 4}, {[]int{2}, 0, 4}, {[]int{4, 3, 0}, 1, 2},
		{[]int{0, 1, 3, 4}, 2, 2}, {[]int{1, 2, 3, 4}, 0, 0}, {[]int{0, 1, 2, 3}, 4, 4}, {[]int{0, 1, 2, 3, 4}, -1, -1},
	}
	for _, r := range rows {
		x, y := filled(t, nil, 5, func(i int) int { return 7 })
		for _, i := range r.dead {
			kill(t, x, y, i)
		}
		if x.First() != r.first || x.Last() != r.last {
			t.Errorf("dead %v: First %d, Last %d, want %d, %d", r.dead, x.First(), x.Last(), r.first, r.last)
		}
		wantSight(t, "First and Last", x, y.sight())
	}
	var none *table.Table
	var zero table.Table
	for _, x := range []*table.Table{none, &zero, table.New(nil)} {
		if x.First() != -1 || x.Last() != -1 {
			t.Errorf("of no entry: First %d, Last %d", x.First(), x.Last())
		}
	}
}

// TestPlaces: of a dead entry the Birth alone is left, so that births rise along all entries; Sight tells nothing of it.
func TestPlaces(t *testing.T) {
	for _, dead := range [][]int{{}, {0}, {4}, {2, 3}, {4, 0}, {0, 1, 2, 3, 4}} {
		x, y := filled(t, nil, 5, func(i int) int { return 7 - i })
		for _, i := range dead {
			kill(t, x, y, i)
		}
		if x.Places() != len(y.entries) {
			t.Errorf("dead %v: Places %d", dead, x.Places())
		}
		for i, want := range y.entries {
			if !want.Live {
				want = api.Entry{Birth: i}
			}
			if got := x.Place(i); got != want {
				t.Errorf("dead %v: Place(%d): got %+v, want %+v", dead, i, got, want)
			}
		}
		wantSight(t, "Places", x, y.sight())
		x.Add(1, 2, 3) // there was no more room: the dead ones are dropped
		for i := range x.Places() {
			if want, e := x.At(i); x.Place(i) != want || e != api.OK {
				t.Errorf("dead %v: Place(%d): got %+v, want %+v", dead, i, x.Place(i), want)
			}
		}
	}
	var none *table.Table
	var zero table.Table
	x, _ := filled(t, nil, 5, func(i int) int { return 7 })
	for _, x := range []*table.Table{none, &zero, table.New(nil), x} {
		for _, i := range []int{-1, 5, 6, math.MinInt, math.MaxInt} {
			if x.Place(i) != (api.Entry{}) {
				t.Errorf("Place(%d), which there is not: %+v", i, x.Place(i))
			}
		}
	}
	if none.Places() != 0 || zero.Places() != 0 || none.Place(0) != (api.Entry{}) || zero.Place(0) != (api.Entry{}) {
		t.Error("places of no entry")
	}
	x.Clear()
	if x.Places() != 0 {
		t.Error("Clear leaves no place")
	}
}

// taken is the first n entries that are gone through.
func taken(all func(func(int, api.Entry) bool), n int) []numbered {
	var row []numbered
	for i, e := range all {
		row = append(row, numbered{i, e})
		if len(row) == n {
			break
		}
	}
	return row
}

func TestP7_6LeftAndGoneThroughAgain(t *testing.T) {
	x, y := filled(t, nil, 7, func(i int) int { return i })
	kill(t, x, y, 0)
	kill(t, x, y, 6)
	want := liveOnes(y.entries)
	reversed := slices.Clone(want)
	slices.Reverse(reversed)
	all, back := x.All(), x.Back()
	for _, n := range []int{1, len(want), 2, len(want) + 1} {
		if got := taken(all, n); !slices.Equal(got, want[:min(n, len(want))]) {
			t.Errorf("All, left at the entry %d: got %+v", n, got)
		}
		if got := taken(back, n); !slices.Equal(got, reversed[:min(n, len(want))]) {
			t.Errorf("Back, left at the entry %d: got %+v", n, got)
		}
	}
	pairs := 0
	for i := range all {
		for j := range all {
			if i < j {
				pairs++
			}
		}
	}
	if pairs != 10 {
		t.Errorf("All within itself: %d pairs, want 10", pairs)
	}
}

func TestP7_6ChangedMeanwhile(t *testing.T) {
	changes := []struct {
		name string
		do   func(x *table.Table)
	}{
		{"Add", func(x *table.Table) { x.Add(1, 2, 3) }},
		{"Put", func(x *table.Table) { x.Put(2, -5); x.Put(0, -5) }},
		{"Kill", func(x *table.Table) { x.Kill(2); x.Kill(3); x.Kill(0) }},
		{"Clear", func(x *table.Table) { x.Clear(); x.Add(0, 0, 0) }},
		{"a table that is made", func(x *table.Table) {
			x.Kill(1)
			for i := range 9 {
				x.Add(i, i, i)
			}
		}},
	}
	for _, c := range changes {
		x, y := filled(t, nil, 5, func(i int) int { return i })
		want := liveOnes(y.entries)
		var got, got2 []numbered
		back := x.Back()
		for i, e := range x.All() {
			c.do(x)
			got = append(got, numbered{i, e})
		}
		for i, e := range back {
			c.do(x)
			got2 = append(got2, numbered{i, e})
		}
		slices.Reverse(got2)
		if !slices.Equal(got, want) || !slices.Equal(got2, want) {
			t.Errorf("%s meanwhile: got %+v, back %+v, want %+v", c.name, got, got2, want)
		}
	}
}

func TestP7_7Sight(t *testing.T) {
	x := table.New(nil)
	mustAdd(t, x, 8, 1, 2, 0)
	mustAdd(t, x, math.MaxInt, 3, 4, 1)
	mustAdd(t, x, -8, 5, 6, 2)
	x.Kill(0)
	x.Put(2, 7)
	want := api.TableSight{
		// The trail of -8 stays at cell 0 while anything is left of the hash, since that is all ones; then it comes to 1.
		Log: 3, Width: 1, Cells: []int{-2, 2, -1, -1, -1, -1, -1, 1},
		Entries: []api.Entry{{}, {Live: true, Hash: math.MaxInt, Key: 3, Value: 4, Birth: 1}, {Live: true, Hash: -8, Key: 5, Value: 7, Birth: 2}},
		Live:    2, Births: 3, Made: 1,
	}
	wantSight(t, "Sight", x, want)
	wantSight(t, "Sight once more", x, want)
}

func TestP7_8Nil(t *testing.T) {
	var x *table.Table
	n, e := x.Add(1, 2, 3)
	entry, e2 := x.At(0)
	if n != 0 || e != api.ErrArg || entry != (api.Entry{}) || e2 != api.ErrArg || x.Put(0, 0) != api.ErrArg || x.Kill(0) != api.ErrArg || x.Len() != 0 {
		t.Error("Add, At, Put, Kill, Len of a nil Table")
	}
	for _, n := range []int{-1, 5, math.MinInt, math.MaxInt} {
		if _, e := x.At(n); e != api.ErrArg || x.Put(n, n) != api.ErrArg || x.Kill(n) != api.ErrArg {
			t.Errorf("entry %d of a nil Table", n)
		}
	}
	x.Clear()
	if x.Copy() != nil || x.Seek(3) != nil || !sameSight(x.Sight(), api.TableSight{}) || len(gone(x)) != 0 || len(goneBack(x)) != 0 {
		t.Error("Copy, Seek, Sight, All, Back of a nil Table")
	}
	s := x.Seek(3)
	for range 2 {
		if i, ok := s.Next(); i != -1 || ok || s.Visited() != 0 {
			t.Errorf("a nil Seeker: %d, %v, visited %d", i, ok, s.Visited())
		}
	}
	var zero table.Seeker
	if i, ok := zero.Next(); i != -1 || ok || zero.Visited() != 0 {
		t.Errorf("a zero Seeker: %d, %v, visited %d", i, ok, zero.Visited())
	}
}

// TestP7_12Order: tables are made, and copied, over and over; what lives stays in its order.
func TestP7_12Order(t *testing.T) {
	for _, r := range rules {
		x := table.New(nil)
		var want []api.Entry
		for i := range 150 {
			n, e := x.Add(r.hash(i), i, -i)
			if e != api.OK {
				t.Fatalf("%s: Add: error %d", r.name, e)
			}
			want = append(want, api.Entry{Live: true, Hash: r.hash(i), Key: i, Value: -i, Birth: i})
			if i%3 == 1 {
				x.Kill(n - 1)
				want = slices.Delete(want, len(want)-2, len(want)-1)
			}
			rising(t, x, want)
		}
		c := x.Copy()
		for i := range want {
			want[i].Birth = i
		}
		rising(t, c, want)
	}
}

// rising holds the live entries of a table against those that are wanted, whose births rise.
func rising(t *testing.T, x *table.Table, want []api.Entry) {
	t.Helper()
	got := gone(x)
	for i := range max(len(got), len(want)) {
		if len(got) != len(want) || got[i].entry != want[i] || i > 0 && got[i].entry.Birth <= got[i-1].entry.Birth {
			t.Fatalf("the live entries: got %+v, want %+v", got, want)
		}
	}
}

func TestP7_13NewMemory(t *testing.T) {
	x, y := filled(t, nil, 5, func(i int) int { return i })
	for _, full := range []bool{true, false} {
		a, b := x.Sight(), x.Sight()
		spoil(a)
		wantSight(t, "a Sight that was spoilt", x, y.sight())
		if !sameSight(b, y.sight()) {
			t.Errorf("a Sight was spoilt by another one: %+v", b)
		}
		// What was answered stays while the table is changed.
		ahead := y.sight()
		ahead.Cells, ahead.Entries = slices.Clone(ahead.Cells), slices.Clone(ahead.Entries)
		kill(t, x, y, 0)
		x.Put(1, 77)
		y.put(1, 77)
		if full {
			mustAdd(t, x, 9, 9, 9, y.add(9, 9, 9))
		}
		if !sameSight(b, ahead) {
			t.Errorf("a Sight has changed with its table: %+v, %+v", b, ahead)
		}
	}
	all := x.All()
	for _, e := range all {
		e.Key, e.Live = 12345, false
	}
	for _, e := range x.Back() {
		e.Value, e.Live = 12345, false
	}
	if got := taken(all, 99); !slices.Equal(got, liveOnes(y.entries)) {
		t.Errorf("All: what it tells was changed: %+v", got)
	}
	wantSight(t, "behind All and Back", x, y.sight())
}

// spoil writes over all of a sight, its spare room too.
func spoil(s api.TableSight) {
	for i := range s.Cells[:cap(s.Cells)] {
		s.Cells[:cap(s.Cells)][i] = 3
	}
	for i := range s.Entries[:cap(s.Entries)] {
		s.Entries[:cap(s.Entries)][i] = api.Entry{Live: true, Hash: 9, Key: 9, Value: 9, Birth: 9}
	}
	_ = append(s.Entries, api.Entry{Live: true})
	_ = append(s.Cells, 1)
}

// TestP7_13TablesOfTheirOwn: what one table is given is not seen in another one.
func TestP7_13TablesOfTheirOwn(t *testing.T) {
	x, y := filled(t, nil, 30, func(i int) int { return i })
	c := x.Copy()
	d := c.Copy()
	want := d.Sight()
	for i := range 30 {
		x.Put(i, -1)
		c.Kill(i)
		y.put(i, -1)
	}
	c.Add(1, 1, 1)
	wantSight(t, "a copy's copy", d, want)
	wantSight(t, "what was copied", x, y.sight())
}

// TestPlay plays calls against the model, and holds all of the table against it.
func TestPlay(t *testing.T) {
	for seed := range 150 {
		draw := rand.New(rand.NewSource(int64(seed)))
		hash := drawHashes(draw)
		m := &meter.Meter{}
		x, y := table.New(m), newModel()
		for turn := range 150 {
			switch draw.Intn(12) {
			case 0, 1, 2, 3, 4, 5:
				h := hash()
				mustAdd(t, x, h, turn, -turn, y.add(h, turn, -turn))
			case 6, 7, 8:
				kill(t, x, y, draw.Intn(len(y.entries)+3)-1)
			case 9:
				i := draw.Intn(len(y.entries)+3) - 1
				if got, want := x.Put(i, turn), y.put(i, turn); got != want {
					t.Fatalf("Put(%d): got %d, want %d", i, got, want)
				}
			case 10:
				i := draw.Intn(len(y.entries)+3) - 1
				got, e := x.At(i)
				if want, e2 := y.at(i); got != want || e != e2 {
					t.Fatalf("At(%d): got %+v, error %d, want %+v, %d", i, got, e, want, e2)
				}
			case 11:
				if draw.Intn(8) == 0 {
					x.Clear()
					y.clear()
				}
			}
			wantSight(t, "a game", x, y.sight())
			sound(t, x, y, m, hash())
		}
		wantSight(t, "a copy", x.Copy(), y.copy().sight())
	}
}

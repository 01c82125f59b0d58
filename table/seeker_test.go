package table_test

import (
	"math"
	"math/rand"
	"slices"
	"testing"

	"lexicon/api"
	"lexicon/meter"
	"lexicon/table"
)

// wantNext asks a Seeker once.
func wantNext(t *testing.T, what string, s *table.Seeker, want found) {
	t.Helper()
	i, ok := s.Next()
	if got := (found{i, ok, s.Visited()}); got != want {
		t.Fatalf("%s: got %+v, want %+v", what, got, want)
	}
}

// sound holds what follows from the promises against a table.
func sound(t *testing.T, x *table.Table, y *model, m *meter.Meter, other int) {
	t.Helper()
	s := x.Sight()
	empty := 0
	for _, held := range s.Cells {
		if held == api.Empty {
			empty++
		}
	}
	if 3*empty < len(s.Cells) || len(s.Entries) > len(s.Cells)*2/3 {
		t.Fatalf("P7.9: %d of %d cells are Empty, %d entries", empty, len(s.Cells), len(s.Entries))
	}
	hashes := []int{other}
	for _, e := range y.entries {
		if e.Live && !slices.Contains(hashes, e.Hash) {
			hashes = append(hashes, e.Hash)
		}
	}
	for _, hash := range hashes {
		m.Take()
		got, want := sought(x, hash), y.seek(hash)
		if !slices.Equal(got, want) {
			t.Fatalf("P7.5: Seek(%d): got %+v, want %+v", hash, got, want)
		}
		visited := got[len(got)-1].visited
		if m.Take() != (api.Counts{Cells: visited}) {
			t.Fatalf("P7.5: Seek(%d): the Meter does not have the %d cells", hash, visited)
		}
		if visited > len(s.Cells)+api.Steps {
			t.Fatalf("P7.9: Seek(%d) visits %d of %d cells", hash, visited, len(s.Cells))
		}
		inOrder(t, hash, got, s.Entries)
	}
}

// inOrder holds what a Seeker told against the entries of its hash, which it is to tell all, once, in the order of their Births.
func inOrder(t *testing.T, hash int, got []found, entries []api.Entry) {
	t.Helper()
	var births, want []int
	for _, f := range got {
		if f.ok {
			births = append(births, entries[f.entry].Birth)
		}
	}
	for _, e := range entries {
		if e.Live && e.Hash == hash {
			want = append(want, e.Birth)
		}
	}
	if !slices.Equal(births, want) || !slices.IsSorted(births) {
		t.Fatalf("P7.10: Seek(%d): births %v, want %v", hash, births, want)
	}
}

func TestP7_5Seek(t *testing.T) {
	m := &meter.Meter{}
	x := table.New(m)
	mustAdd(t, x, 5, 10, 20, 0)
	mustAdd(t, x, 13, 12, 22, 1) // its trail: 5, then 66 modulo 8, which is 2: the second one of 5 is there
	mustAdd(t, x, 5, 11, 21, 2)
	m.Take()
	s := x.Seek(5)
	if s.Visited() != 0 || m.Read() != (api.Counts{}) {
		t.Error("Seek visits nothing")
	}
	wantNext(t, "the first one", s, found{0, true, 1})
	if m.Read() != (api.Counts{Cells: 1}) {
		t.Errorf("the Meter has %+v", m.Read())
	}
	want := y5(t, x)
	for _, f := range want[1:] {
		wantNext(t, "the next one", s, f)
	}
	last := want[len(want)-1]
	for range 3 {
		wantNext(t, "a Seeker that has ended", s, last)
	}
	if m.Read() != (api.Counts{Cells: last.visited}) {
		t.Errorf("the Meter has %+v, not %d cells", m.Read(), last.visited)
	}
}

// y5 is what a Seeker of 5 is to tell, by the cells that the table shows.
func y5(t *testing.T, x *table.Table) []found {
	t.Helper()
	s := x.Sight()
	y := &model{log: s.Log, cells: s.Cells, entries: s.Entries}
	return y.seek(5)
}

func TestP7_5NoEntryOfThatHash(t *testing.T) {
	x := table.New(nil)
	wantNext(t, "an empty table", x.Seek(math.MinInt), found{-1, false, 1})
	mustAdd(t, x, 5, 10, 20, 0)
	wantNext(t, "another first cell", x.Seek(6), found{-1, false, 1})
	wantNext(t, "the same first cell", x.Seek(13), found{-1, false, 2})
	x.Kill(0)
	wantNext(t, "a Dead cell", x.Seek(5), found{-1, false, 2})
	mustAdd(t, x, 5, 10, 20, 1)
	wantNext(t, "behind a Dead cell", x.Seek(5), found{1, true, 2})
}

// TestP7_5OneCellTwice: the trail of 224 stands still at its second cell: 0, 0, 1, ..
func TestP7_5OneCellTwice(t *testing.T) {
	x := table.New(nil)
	mustAdd(t, x, 224, 1, 1, 0)
	mustAdd(t, x, 224, 2, 2, 1)
	s := x.Seek(224)
	wantNext(t, "the first one", s, found{0, true, 1})
	wantNext(t, "the second one, behind the first one's cell once more", s, found{1, true, 3})
	wantNext(t, "the end", s, found{-1, false, 4})
}

func TestP7_5Changes(t *testing.T) {
	rows := []struct {
		name string
		ends bool
		do   func(x *table.Table)
	}{
		{"nothing", false, func(x *table.Table) {}},
		{"Add", true, func(x *table.Table) { x.Add(9, 1, 1) }},
		{"Kill", true, func(x *table.Table) { x.Kill(2) }},
		{"Kill of another hash", true, func(x *table.Table) { x.Kill(3) }},
		{"Kill and Add", true, func(x *table.Table) { x.Kill(0); x.Add(5, 100, 200) }},
		{"Add and Kill", true, func(x *table.Table) { x.Add(9, 1, 1); x.Kill(4) }},
		{"an index table", true, func(x *table.Table) { x.Add(9, 1, 1); x.Add(9, 1, 1) }},
		{"Clear", true, func(x *table.Table) { x.Clear() }},
		{"Put", false, func(x *table.Table) { x.Put(0, 9); x.Put(1, 9) }},
		{"calls that are refused", false, func(x *table.Table) { x.Put(9, 9); x.Kill(9); x.Kill(-1) }},
		{"what only looks", false, func(x *table.Table) {
			x.At(0)
			x.Sight()
			x.Len()
			x.Copy().Add(1, 1, 1)
			sought(x, 5)
			gone(x)
			goneBack(x)
		}},
	}
	hashes := []int{5, 5, 5, 1}
	for _, r := range rows {
		for ahead := range 5 {
			x, y := filled(t, nil, 4, func(i int) int { return hashes[i] })
			s := x.Seek(5)
			want := y.seek(5)
			at := found{-1, false, 0}
			for i := range ahead {
				at = want[min(i, len(want)-1)]
				wantNext(t, r.name+", ahead of it", s, at)
			}
			r.do(x)
			for i := ahead; i < ahead+3; i++ {
				if !r.ends {
					at = want[min(i, len(want)-1)]
				}
				at = ended(at, r.ends)
				wantNext(t, r.name, s, at)
			}
		}
	}
}

// ended is what a Seeker answers from there on, if it has ended.
func ended(at found, ends bool) found {
	if ends {
		return found{-1, false, at.visited}
	}
	return at
}

func TestP7_5ClearOfAnEmptyTable(t *testing.T) {
	x := table.New(nil)
	s := x.Seek(0)
	x.Clear()
	wantNext(t, "behind Clear", s, found{-1, false, 0})
}

func TestP7_5TwoSeekers(t *testing.T) {
	m := &meter.Meter{}
	x, y := filled(t, m, 5, func(i int) int { return 5 * (i % 2) })
	want0, want5 := y.seek(0), y.seek(5)
	m.Take()
	a, b, c := x.Seek(0), x.Seek(5), x.Seek(0)
	for i := range 4 {
		wantNext(t, "one of 0", a, want0[min(i, len(want0)-1)])
		wantNext(t, "one of 5", b, want5[min(i, len(want5)-1)])
	}
	for i := range 4 {
		wantNext(t, "another one of 0", c, want0[min(i, len(want0)-1)])
	}
	if got, want := m.Take().Cells, a.Visited()+b.Visited()+c.Visited(); got != want {
		t.Errorf("the Meter has %d cells, want %d", got, want)
	}
	x.Kill(0)
	wantNext(t, "ended", a, found{-1, false, want0[len(want0)-1].visited})
	if m.Take() != (api.Counts{}) {
		t.Error("a Seeker that has ended visits nothing")
	}
}

// TestP7_9EmptyCells: tables that are as full as they may be.
func TestP7_9EmptyCells(t *testing.T) {
	for _, r := range rules {
		m := &meter.Meter{}
		x, y := filled(t, m, 0, r.hash)
		for i := range 90 {
			mustAdd(t, x, r.hash(i), i, i, y.add(r.hash(i), i, i))
			if i%4 == 0 {
				kill(t, x, y, len(y.entries)/2)
			}
			sound(t, x, y, m, -5*i)
			sound(t, x, y, m, math.MinInt+i)
		}
	}
}

func TestP7_10Order(t *testing.T) {
	for seed := range 40 {
		draw := rand.New(rand.NewSource(int64(seed)))
		m := &meter.Meter{}
		x, y := table.New(m), newModel()
		for i := range 200 {
			h := []int{3, 11, 224, -8}[draw.Intn(4)]
			mustAdd(t, x, h, i, i, y.add(h, i, i))
			for range draw.Intn(3) {
				kill(t, x, y, draw.Intn(len(y.entries)+1))
			}
			sound(t, x, y, m, 3)
		}
	}
}

// TestP7_11OneCell: hashes that are unlike modulo the table's size, in tables that are full.
func TestP7_11OneCell(t *testing.T) {
	for _, log := range []int{3, 4, 7, 8, 10, 16} {
		size := 1 << log
		draw := rand.New(rand.NewSource(int64(log)))
		var hashes []int
		for _, first := range draw.Perm(size)[:size*2/3] {
			hashes = append(hashes, int(draw.Uint64())&^(size-1)|first)
		}
		x := table.New(nil)
		for i, h := range hashes {
			mustAdd(t, x, h, 0, 0, i)
		}
		for _, y := range []*table.Table{x, x.Copy()} {
			if got := y.Sight().Log; got != log {
				t.Fatalf("log %d, want %d: the test is wrong", got, log)
			}
			for i, h := range hashes {
				wantNext(t, "one cell", y.Seek(h), found{i, true, 1})
			}
		}
	}
}

func TestP7_11OneCellInARow(t *testing.T) {
	x, _ := filledFast(t, nil, 1000)
	for i := range 1000 {
		wantNext(t, "one cell", x.Seek(i), found{i, true, 1})
	}
	x = table.New(nil)
	for i, h := range []int{math.MinInt, -1, math.MaxInt - 1, 1, -4} {
		mustAdd(t, x, h, 0, 0, i)
	}
	for i, h := range []int{math.MinInt, -1, math.MaxInt - 1, 1, -4} {
		wantNext(t, "one cell", x.Seek(h), found{i, true, 1})
	}
}

func TestExamplesOfChapter7(t *testing.T) {
	m := &meter.Meter{}
	x := table.New(m)
	for i, e := range [][3]int{{5, 10, 20}, {5, 11, 21}, {13, 12, 22}} {
		mustAdd(t, x, e[0], e[1], e[2], i)
	}
	if got := x.Sight().Cells; !slices.Equal(got, []int{-1, -1, 1, 2, -1, 0, -1, -1}) {
		t.Errorf("the cells: %v", got)
	}
	s := x.Seek(5)
	a, aOK := s.Next()
	b, bOK := s.Next()
	c, cOK := s.Next()
	if a != 0 || !aOK || b != 1 || !bOK || c != -1 || cOK || s.Visited() != 4 {
		t.Errorf("Next: %d, %d, %d, visited %d", a, b, c, s.Visited())
	}
	if e, e2 := x.Kill(0), x.Kill(0); e != api.OK || e2 != api.ErrNone {
		t.Errorf("Kill: errors %d, %d", e, e2)
	}
	if i, ok := x.Seek(5).Next(); i != 1 || !ok {
		t.Errorf("Next behind Kill: %d", i)
	}
	if got := x.Sight().Cells; !slices.Equal(got, []int{-1, -1, 1, 2, -1, -2, -1, -1}) {
		t.Errorf("the cells behind Kill: %v", got)
	}
	if i, ok := s.Next(); i != -1 || ok {
		t.Errorf("Next of the Seeker ahead of Kill: %d", i)
	}
	mustAdd(t, x, 0, 13, 0, 3)
	mustAdd(t, x, 1, 14, 0, 4)
	mustAdd(t, x, 2, 15, 0, 4)
	if got := x.Sight(); got.Log != 4 || got.Made != 2 {
		t.Errorf("log %d, made %d", got.Log, got.Made)
	}
	if got := x.Copy().Sight(); got.Births != 5 || got.Log != 3 {
		t.Errorf("Copy: births %d, log %d", got.Births, got.Log)
	}
	x.Clear()
	if got := x.Sight(); got.Births != 6 || got.Made != 3 || x.Len() != 0 {
		t.Errorf("Clear: births %d, made %d, Len %d", got.Births, got.Made, x.Len())
	}
}

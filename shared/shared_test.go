package shared_test

import (
	"math"
	"slices"
	"strconv"
	"testing"

	"lexicon/api"
	"lexicon/digest"
	"lexicon/meter"
	"lexicon/shared"
	"lexicon/table"
)

// twins are two pairs of names of one hash.
func twins() []string {
	return []string{"8yn0iYCKYHlIj4-BwPqk", "GReLUrM4wMqfg9yzV3KQ", "7mohtcOFVz", "c1E51sSEyx"}
}

// made is a Family that counts by a Meter.
func made(t *testing.T, names, most int) (*shared.Family, *meter.Meter) {
	t.Helper()
	m := &meter.Meter{}
	f, e := shared.New(names, most, m)
	if f == nil || e != api.OK {
		t.Fatalf("New(%d, %d): error %d", names, most, e)
	}
	return f, m
}

// given is a Space that was given names; each one's value is ten times its place.
func given(t *testing.T, f *shared.Family, names ...string) *shared.Space {
	t.Helper()
	s := f.Make()
	for i, name := range names {
		if e := s.Set(name, 10*i); e != api.OK {
			t.Fatalf("Set(%q): error %d", name, e)
		}
	}
	return s
}

// numbered is so many names.
func numbered(n int) []string {
	var names []string
	for i := range n {
		names = append(names, "n"+strconv.Itoa(i))
	}
	return names
}

// told is a Space's names and values in one text: "x 1, y 2".
func told(s *shared.Space) string {
	text := ""
	for i, p := range s.Pairs() {
		if i > 0 {
			text += ", "
		}
		text += p.Name + " " + strconv.Itoa(p.Value)
	}
	return text
}

func wantTold(t *testing.T, what string, s *shared.Space, want string) {
	t.Helper()
	if got := told(s); got != want {
		t.Errorf("%s: got %q, want %q", what, got, want)
	}
}

func wantGet(t *testing.T, s *shared.Space, name string, want int, has bool) {
	t.Helper()
	if value, ok := s.Get(name); value != want || ok != has {
		t.Errorf("Get(%q): %d, %t, want %d, %t", name, value, ok, want, has)
	}
}

func TestP10_1New(t *testing.T) {
	rows := []struct {
		names, most int
		want        api.Errno
	}{
		{0, 0, api.OK},
		{0, 1, api.OK},
		{1, 0, api.OK},
		{1, 1, api.OK},
		{api.MaxShared, api.MaxPairs, api.OK},
		{0, api.MaxPairs, api.OK},
		{api.MaxShared, 0, api.OK},
		{-1, 0, api.ErrArg},
		{math.MinInt, 0, api.ErrArg},
		{api.MaxShared + 1, 0, api.ErrArg},
		{api.MaxPairs, 0, api.ErrArg},
		{math.MaxInt, 0, api.ErrArg},
		{0, -1, api.ErrArg},
		{0, math.MinInt, api.ErrArg},
		{0, api.MaxPairs + 1, api.ErrArg},
		{0, math.MaxInt, api.ErrArg},
		{-1, -1, api.ErrArg},
		{api.MaxShared + 1, api.MaxPairs + 1, api.ErrArg},
	}
	for _, r := range rows {
		m := &meter.Meter{}
		f, e := shared.New(r.names, r.most, m)
		if e != r.want || (f != nil) != (e == api.OK) {
			t.Errorf("New(%d, %d): error %d, want %d", r.names, r.most, e, r.want)
		}
		tables := 0
		if r.want == api.OK {
			tables = 1
		}
		if m.Read() != (api.Counts{Tables: tables}) {
			t.Errorf("New(%d, %d): the Meter has %+v", r.names, r.most, m.Read())
		}
	}
}

func TestP10_1NewFamily(t *testing.T) {
	for _, m := range []*meter.Meter{nil, {}} {
		f, _ := shared.New(5, 5, m)
		if len(f.Names()) != 0 || !sameSight(f.Sight(), table.New(nil).Sight()) {
			t.Errorf("a new Family: %q, %+v", f.Names(), f.Sight())
		}
	}
}

// TestP10_1KeyTable: its keys are the names' numbers, which may leave some out; its values 0.
func TestP10_1KeyTable(t *testing.T) {
	f, _ := made(t, 3, 9)
	s := given(t, f, "b", "a")
	given(t, f, "q", "b")           // q is the third one that was given
	given(t, f, "b", "a").Del("b")  // nothing new
	s.Set("b", 99)                  // neither
	s.Set("c", 7)                   // so this is the fourth one
	given(t, f, "b", "a", "c", "d") // the fifth one is no shared name
	if got := f.Names(); !slices.Equal(got, []string{"b", "a", "c"}) {
		t.Errorf("Names: %q", got)
	}
	want := table.New(nil)
	for i, number := range []int{0, 1, 3} {
		want.Add(digest.Text([]string{"b", "a", "c"}[i]), number, 0)
	}
	if got := f.Sight(); !sameSight(got, want.Sight()) {
		t.Errorf("Sight: %+v, want %+v", got, want.Sight())
	}
}

func TestP10_1MostNames(t *testing.T) {
	names := numbered(api.MaxShared)
	f, m := made(t, api.MaxShared, api.MaxPairs)
	s := given(t, f, names...)
	if !s.Shared() || !slices.Equal(f.Names(), names) || m.Read().Values != api.MaxShared {
		t.Fatalf("%d names: Shared %t, %d in the key table", len(names), s.Shared(), len(f.Names()))
	}
	made := f.Sight().Made
	s.Set("one more", 1)
	if s.Shared() || len(f.Names()) != api.MaxShared || s.Len() != api.MaxShared+1 || f.Sight().Made != made {
		t.Errorf("one more: Shared %t, %d in the key table, Len %d", s.Shared(), len(f.Names()), s.Len())
	}
	wantGet(t, s, "one more", 1, true)
	wantGet(t, s, names[255], 2550, true)
}

func TestP10_2Make(t *testing.T) {
	f, m := made(t, 2, 3)
	given(t, f, "x", "y")
	m.Take()
	s := f.Make()
	if s == nil || !s.Shared() || s.Len() != 0 || len(s.Pairs()) != 0 || s.Version() != 0 || !sameSight(s.Sight(), api.TableSight{}) {
		t.Errorf("Make: Shared %t, %v, Version %d, %+v", s.Shared(), s.Pairs(), s.Version(), s.Sight())
	}
	if m.Read() != (api.Counts{}) {
		t.Errorf("Make counts %+v", m.Read())
	}
	wantGet(t, s, "x", 0, false)
	if f.Make() == s {
		t.Error("Make is one and the same Space")
	}
}

// TestP10_2HowManyNames: a Space may have most names, whether it is shared or not.
func TestP10_2HowManyNames(t *testing.T) {
	for _, names := range []int{0, 1, 5, 6, api.MaxShared} {
		for _, most := range []int{0, 1, 2, 5, 6, 40} {
			f, _ := made(t, names, most)
			s := given(t, f, numbered(most)...)
			shared, before, version := s.Shared(), told(s), s.Version()
			if e := s.Set("new", 1); e != api.ErrFull || s.Len() != most || s.Shared() != shared || told(s) != before || s.Version() != version {
				t.Errorf("New(%d, %d): error %d at one more, %d names, Shared %t, was %t", names, most, e, s.Len(), s.Shared(), shared)
			}
			if shared != (most <= names) {
				t.Errorf("New(%d, %d): Shared %t", names, most, shared)
			}
		}
	}
}

func TestP10_2MostPairs(t *testing.T) {
	names := numbered(api.MaxPairs)
	f, _ := made(t, api.MaxShared, api.MaxPairs)
	s := given(t, f, names...)
	if e := s.Set("one more", 1); e != api.ErrFull || s.Len() != api.MaxPairs || s.Version() != api.MaxPairs {
		t.Errorf("one more: error %d, Len %d, Version %d", e, s.Len(), s.Version())
	}
	if e := s.Set(names[0], 5); e != api.OK {
		t.Errorf("a name that it has: error %d", e)
	}
	if e := s.Del(names[300]); e != api.OK {
		t.Errorf("Del: error %d", e)
	}
	if e := s.Set("one more", 1); e != api.OK {
		t.Errorf("behind Del: error %d", e)
	}
	pairs := s.Pairs()
	if pairs[0].Value != 5 || pairs[300].Name != names[301] || pairs[len(pairs)-1].Name != "one more" {
		t.Errorf("Pairs: %v, %v, %v", pairs[0], pairs[300], pairs[len(pairs)-1])
	}
}

func TestP10_3WhatItTells(t *testing.T) {
	f, _ := made(t, 3, 9)
	given(t, f, "x", "y", "z")
	s := given(t, f, "x", "y")
	for _, private := range []bool{false, true} {
		if private {
			s.Set("q", 1)
			s.Del("q")
		}
		if s.Shared() == private || s.Len() != 2 {
			t.Errorf("private %t: Shared %t, Len %d", private, s.Shared(), s.Len())
		}
		wantTold(t, "Pairs", s, "x 0, y 10")
		wantGet(t, s, "x", 0, true)
		wantGet(t, s, "y", 10, true)
		wantGet(t, s, "z", 0, false) // another one has it
		wantGet(t, s, "q", 0, false) // it had it, or nobody has
		wantGet(t, s, "", 0, false)
		wantGet(t, s, "X", 0, false)
		wantGet(t, s, "x\x00", 0, false)
	}
}

func TestP10_3Version(t *testing.T) {
	f, _ := made(t, 1, 2)
	s := f.Make()
	steps := []struct {
		name string
		del  bool
		want api.Errno
	}{
		{"x", false, api.OK},
		{"x", false, api.OK},
		{"x", true, api.OK},
		{"x", true, api.ErrNone},
		{"y", false, api.OK},
		{"x", false, api.OK},
		{"z", false, api.ErrFull},
		{"y", false, api.OK},
		{"z", true, api.ErrNone},
	}
	version := 0
	for i, x := range steps {
		var e api.Errno
		if x.del {
			e = s.Del(x.name)
		} else {
			e = s.Set(x.name, 7)
		}
		if e == api.OK {
			version++
		}
		s.Get("x")
		s.Pairs()
		if e != x.want || s.Version() != version {
			t.Errorf("step %d: error %d, Version %d, want %d, %d", i, e, s.Version(), x.want, version)
		}
	}
}

// TestP10_3Sight: a private one's table has its names' numbers, and their values.
func TestP10_3Sight(t *testing.T) {
	f, _ := made(t, 2, 9)
	given(t, f, "x", "y")
	s := given(t, f, "x")
	if !sameSight(s.Sight(), api.TableSight{}) {
		t.Errorf("a shared one: %+v", s.Sight())
	}
	want := table.New(nil)
	want.Add(digest.Text("x"), 0, 0)
	s.Set("z", 5)
	want.Add(digest.Text("z"), 2, 5)
	s.Set("y", 6)
	want.Add(digest.Text("y"), 1, 6)
	if !sameSight(s.Sight(), want.Sight()) {
		t.Errorf("a private one: %+v, want %+v", s.Sight(), want.Sight())
	}
	s.Set("z", -5)
	want.Put(1, -5)
	s.Del("x")
	want.Kill(0)
	s.Set("x", 8)
	want.Add(digest.Text("x"), 0, 8)
	if !sameSight(s.Sight(), want.Sight()) {
		t.Errorf("behind Del: %+v, want %+v", s.Sight(), want.Sight())
	}
}

// TestP10_4ANameThatItHas: its value is turned in its place, and it stays shared.
func TestP10_4ANameThatItHas(t *testing.T) {
	f, m := made(t, 3, 3)
	s := given(t, f, "x", "y", "z")
	other := given(t, f, "x", "y", "z")
	m.Take()
	for _, v := range []int{5, 0, math.MinInt, math.MaxInt, -1} {
		if e := s.Set("y", v); e != api.OK {
			t.Errorf("Set: error %d", e)
		}
		wantTold(t, "Set", s, "x 0, y "+strconv.Itoa(v)+", z 20")
	}
	wantTold(t, "another one", other, "x 0, y 10, z 20")
	if got := m.Take(); !s.Shared() || got != (api.Counts{Cells: got.Cells}) {
		t.Errorf("Shared %t, the Meter has %+v", s.Shared(), got)
	}
	for _, e := range f.Sight().Entries {
		if e.Value != 0 {
			t.Errorf("a value of the key table: %+v", e)
		}
	}
	s.Del("x")
	s.Set("z", 9)
	wantTold(t, "private", s, "y -1, z 9")
}

// TestP10_4Full: it is told ahead of all else; nothing has changed.
func TestP10_4Full(t *testing.T) {
	f, m := made(t, 5, 2)
	s, w := given(t, f, "x", "y"), given(t, f, "y", "x")
	for _, name := range []string{"z", "", "q"} {
		m.Take()
		for _, x := range []*shared.Space{s, w} {
			before, shared := told(x), x.Shared()
			if e := x.Set(name, 1); e != api.ErrFull || told(x) != before || x.Shared() != shared || x.Version() != 2 {
				t.Errorf("Set(%q): error %d, %q, Shared %t, Version %d", name, e, told(x), x.Shared(), x.Version())
			}
			wantGet(t, x, name, 0, false)
		}
		if got := m.Take(); got != (api.Counts{Cells: got.Cells}) || got.Cells < 4 {
			t.Errorf("Set(%q): the Meter has %+v", name, got)
		}
	}
	if !slices.Equal(f.Names(), []string{"x", "y"}) {
		t.Errorf("Names: %q", f.Names())
	}
	// No number was given to a name that nobody was given.
	w.Del("x")
	w.Set("v", 3)
	entries := w.Sight().Entries
	if got := entries[len(entries)-1]; got.Key != 2 || got.Value != 3 {
		t.Errorf("the entry of v: %+v, want the number 2", got)
	}
}

func TestP10_4WhoIsShared(t *testing.T) {
	rows := []struct {
		what   string
		names  int      // of the key table
		common []string // what the first Space is given
		given  []string // what another one is
		want   bool     // whether it is shared then
		keys   string   // the key table's names
	}{
		{"the common order", 3, []string{"x", "y"}, []string{"x", "y"}, true, "xy"},
		{"the beginning of it", 3, []string{"x", "y"}, []string{"x"}, true, "xy"},
		{"one more", 3, []string{"x", "y"}, []string{"x", "y", "z"}, true, "xyz"},
		{"one more than there may be", 2, []string{"x", "y"}, []string{"x", "y", "z"}, false, "xy"},
		{"one ahead of its time", 3, []string{"x", "y"}, []string{"y"}, false, "xy"},
		{"one left out", 3, []string{"x", "y", "z"}, []string{"x", "z"}, false, "xyz"},
		{"another one in the place of the next", 3, []string{"x", "y"}, []string{"x", "z"}, false, "xy"},
		{"another first one", 3, []string{"x"}, []string{"y"}, false, "x"},
		{"one name twice", 3, []string{"x", "y"}, []string{"x", "x", "y", "x"}, true, "xy"},
		{"no shared names", 0, nil, []string{"x"}, false, ""},
		{"the first one alone", 1, nil, []string{"x"}, true, "x"},
		{"behind the first one alone", 1, []string{"x"}, []string{"x", "y"}, false, "x"},
		{"the empty name", 2, []string{""}, []string{"", "x"}, true, "x"},
		{"a name of the same hash, next", 2, twins()[:2], twins()[:2], true, twins()[0] + twins()[1]},
		{"a name of the same hash, in its place", 2, twins()[:1], twins()[1:2], false, twins()[0]},
		{"a name of the same hash, ahead of its time", 2, twins()[:2], twins()[1:2], false, twins()[0] + twins()[1]},
	}
	for _, r := range rows {
		f, _ := made(t, r.names, 9)
		given(t, f, r.common...)
		s := given(t, f, r.given...)
		keys := ""
		for _, name := range f.Names() {
			keys += name
		}
		if s.Shared() != r.want || keys != r.keys {
			t.Errorf("%s: Shared %t, the key table has %q; want %t, %q", r.what, s.Shared(), keys, r.want, r.keys)
		}
	}
}

// TestP10_4TurnedByAnother: a shared one that has all names goes on with the names that another one has brought since.
func TestP10_4TurnedByAnother(t *testing.T) {
	f, _ := made(t, 9, 9)
	s, u := given(t, f, "x"), given(t, f, "x")
	u.Set("y", 1)
	s.Set("z", 2)
	if s.Shared() || !u.Shared() {
		t.Errorf("Shared: %t, %t", s.Shared(), u.Shared())
	}
	u.Set("z", 3)
	wantTold(t, "the one that was turned", s, "x 0, z 2")
	wantTold(t, "the other one", u, "x 0, y 1, z 3")
	if !slices.Equal(f.Names(), []string{"x", "y", "z"}) {
		t.Errorf("Names: %q", f.Names())
	}
}

func TestP10_4Twins(t *testing.T) {
	a, b := twins()[0], twins()[1]
	if digest.Text(a) != digest.Text(b) {
		t.Fatal("the two names have not one hash: the test is wrong")
	}
	f, _ := made(t, 2, 9)
	s := given(t, f, a)
	wantGet(t, s, b, 0, false)
	if e := s.Del(b); e != api.ErrNone || !s.Shared() {
		t.Errorf("Del of the other one: error %d", e)
	}
	for _, private := range []bool{false, true} {
		if private {
			s.Set("x", 1)
			s.Del("x")
			s.Del(b)
		}
		s.Set(b, 5)
		s.Set(a, 4)
		wantGet(t, s, a, 4, true)
		wantGet(t, s, b, 5, true)
		wantTold(t, "both", s, a+" 4, "+b+" 5")
	}
	s.Del(a)
	wantGet(t, s, a, 0, false)
	wantGet(t, s, b, 5, true)
	wantTold(t, "one of them", s, b+" 5")
}

func TestP10_5Del(t *testing.T) {
	rows := []struct {
		given []string
		del   string
		want  string
	}{
		{[]string{"x", "y", "z"}, "x", "y 10, z 20"},
		{[]string{"x", "y", "z"}, "y", "x 0, z 20"},
		{[]string{"x", "y", "z"}, "z", "x 0, y 10"},
		{[]string{"x"}, "x", ""},
		{[]string{""}, "", ""},
		{[]string{"x", ""}, "", "x 0"},
	}
	for _, r := range rows {
		f, m := made(t, 3, 3)
		s, other := given(t, f, r.given...), given(t, f, r.given...)
		before, names := told(other), f.Names()
		m.Take()
		if e := s.Del(r.del); e != api.OK {
			t.Errorf("Del(%q) of %q: error %d", r.del, r.given, e)
		}
		if got := m.Take(); got != (api.Counts{Tables: 1, Cells: got.Cells, Shifts: 1}) {
			t.Errorf("Del(%q) of %q: the Meter has %+v", r.del, r.given, got)
		}
		wantTold(t, "Del", s, r.want)
		wantGet(t, s, r.del, 0, false)
		if s.Shared() || s.Len() != len(r.given)-1 || s.Version() != len(r.given)+1 || s.Sight().Births != len(r.given) {
			t.Errorf("Del(%q) of %q: Shared %t, Len %d, Version %d, %+v", r.del, r.given, s.Shared(), s.Len(), s.Version(), s.Sight())
		}
		if e := s.Del(r.del); e != api.ErrNone || s.Version() != len(r.given)+1 {
			t.Errorf("Del(%q) again: error %d, Version %d", r.del, e, s.Version())
		}
		if got := m.Take(); got != (api.Counts{Cells: got.Cells}) {
			t.Errorf("Del(%q) again: the Meter has %+v", r.del, got)
		}
		if !other.Shared() || told(other) != before || !slices.Equal(f.Names(), names) {
			t.Errorf("Del(%q) of %q: another one: %q, Shared %t; Names %q", r.del, r.given, told(other), other.Shared(), f.Names())
		}
	}
}

func TestP10_5NoneOfItsNames(t *testing.T) {
	f, m := made(t, 3, 3)
	given(t, f, "x", "y", "z")
	for _, s := range []*shared.Space{f.Make(), given(t, f, "x"), given(t, f, "z")} {
		m.Take()
		before, shared, version, sight := told(s), s.Shared(), s.Version(), s.Sight()
		for _, name := range []string{"y", "q", ""} { // y: another one has it
			if e := s.Del(name); e != api.ErrNone {
				t.Errorf("Del(%q) of %q: error %d", name, before, e)
			}
		}
		if told(s) != before || s.Shared() != shared || s.Version() != version || !sameSight(s.Sight(), sight) {
			t.Errorf("%q, Shared %t: behind Del %q, %t", before, shared, told(s), s.Shared())
		}
		if got := m.Take(); got != (api.Counts{Cells: got.Cells}) {
			t.Errorf("%q: the Meter has %+v", before, got)
		}
	}
}

func TestP10_5SetBehindDel(t *testing.T) {
	f, m := made(t, 3, 3)
	s := given(t, f, "x", "y", "z")
	s.Del("x")
	m.Take()
	s.Set("x", 7)
	wantTold(t, "again", s, "y 10, z 20, x 7")
	if got := m.Take(); got != (api.Counts{Cells: got.Cells}) {
		t.Errorf("the Meter has %+v: nothing is charged to a private one", got)
	}
	if e := s.Set("w", 1); e != api.ErrFull {
		t.Errorf("one more: error %d", e)
	}
	u := given(t, f, "x")
	u.Del("x")
	u.Set("x", 1) // it would be the first shared name
	if u.Shared() || told(u) != "x 1" {
		t.Errorf("the only name: %q, Shared %t", told(u), u.Shared())
	}
}

// TestP10_6WhatIsCounted: by hand. In eight cells the trails are x: 7 4 2, y: 4 7 1, z: 5 5 0, w: 6, q: 4 2, the empty name: 5 3.
func TestP10_6WhatIsCounted(t *testing.T) {
	f, m := made(t, 3, 4)
	if m.Take() != (api.Counts{Tables: 1}) {
		t.Error("New makes one table")
	}
	spaces := []*shared.Space{f.Make(), f.Make(), f.Make(), f.Make()}
	rows := []struct {
		space                         int
		call, name                    string
		want                          api.Errno // of Get: ErrNone, if there is no such name
		tables, cells, values, shifts int
	}{
		{0, "set", "x", api.OK, 0, 1, 1, 0},
		{0, "set", "y", api.OK, 0, 1, 1, 0},
		{0, "set", "x", api.OK, 0, 1, 0, 0},
		{0, "get", "y", api.OK, 0, 1, 0, 0},
		{0, "get", "q", api.ErrNone, 0, 2, 0, 0}, // behind y's cell
		{0, "del", "q", api.ErrNone, 0, 2, 0, 0},
		{1, "get", "x", api.ErrNone, 0, 1, 0, 0}, // up to the name, though another one's
		{1, "del", "x", api.ErrNone, 0, 1, 0, 0},
		{1, "set", "y", api.OK, 1, 1, 0, 1}, // sought in the key table alone
		{1, "set", "q", api.OK, 0, 2, 0, 0}, // in its own, behind y's cell
		{1, "get", "q", api.OK, 0, 2, 0, 0},
		{1, "get", "x", api.ErrNone, 0, 1, 0, 0},
		{1, "del", "y", api.OK, 0, 1, 0, 0},
		{1, "get", "q", api.OK, 0, 2, 0, 0}, // behind a Dead cell
		{1, "del", "y", api.ErrNone, 0, 2, 0, 0},
		{0, "set", "z", api.OK, 0, 1, 1, 0},
		{0, "set", "", api.OK, 1, 2, 0, 1}, // the key table has three names
		{0, "set", "w", api.ErrFull, 0, 1, 0, 0},
		{0, "set", "", api.OK, 0, 2, 0, 0},
		{2, "set", "x", api.OK, 0, 1, 1, 0},
		{2, "set", "y", api.OK, 0, 1, 1, 0},
		{2, "set", "q", api.OK, 1, 2, 0, 1}, // z would come next
		{3, "set", "x", api.OK, 0, 1, 1, 0},
		{3, "set", "y", api.OK, 0, 1, 1, 0},
		{3, "del", "x", api.OK, 1, 1, 0, 1},
		{3, "del", "x", api.ErrNone, 0, 3, 0, 0}, // a Dead cell, y's
		{3, "get", "y", api.OK, 0, 1, 0, 0},
	}
	for i, r := range rows {
		s, e := spaces[r.space], api.OK
		switch r.call {
		case "set":
			e = s.Set(r.name, i)
		case "del":
			e = s.Del(r.name)
		case "get":
			if _, ok := s.Get(r.name); !ok {
				e = api.ErrNone
			}
		}
		got := m.Take()
		if want := (api.Counts{Tables: r.tables, Cells: r.cells, Values: r.values, Shifts: r.shifts}); e != r.want || got != want {
			t.Errorf("row %d: %s %q of %d: error %d, %+v; want %d, %+v", i, r.call, r.name, r.space, e, got, r.want, want)
		}
		s.Len()
		s.Pairs()
		s.Sight()
		f.Names()
		f.Sight()
		if got := m.Take(); got != (api.Counts{}) {
			t.Errorf("row %d: what only looks counts %+v", i, got)
		}
	}
}

// TestP10_6TablesOfGreaterSpaces: names come one by one to a new table, so it is made anew on the way, at the 6th and the 11th of them.
func TestP10_6TablesOfGreaterSpaces(t *testing.T) {
	for n, tables := range map[int]int{0: 1, 4: 1, 5: 1, 6: 2, 10: 2, 11: 3} {
		f, m := made(t, 20, 20)
		if n == 0 {
			given(t, f, "other")
		}
		s := given(t, f, numbered(n)...)
		if n > 0 {
			if got := m.Take(); got.Tables != tables || got.Values != n || got.Shifts != 0 {
				t.Errorf("%d shared names: %+v, want %d tables", n, got, tables)
			}
			s.Del("n0")
		} else {
			m.Take()
			s.Set("n0", 1)
		}
		if got := m.Take(); got.Tables != tables || got.Values != 0 || got.Shifts != 1 || s.Sight().Made != tables {
			t.Errorf("%d names turned: %+v, want %d tables", n, got, tables)
		}
	}
}

func TestP10_7Nil(t *testing.T) {
	var f *shared.Family
	if f.Make() != nil || len(f.Names()) != 0 || !sameSight(f.Sight(), api.TableSight{}) {
		t.Errorf("a nil Family: %q, %+v", f.Names(), f.Sight())
	}
	for _, s := range []*shared.Space{nil, {}} {
		for range 2 {
			if e, e2, e3 := s.Set("x", 1), s.Del("x"), s.Set("", 0); e != api.ErrArg || e2 != api.ErrArg || e3 != api.ErrArg {
				t.Errorf("Set and Del: errors %d, %d, %d", e, e2, e3)
			}
			wantGet(t, s, "x", 0, false)
			if s.Len() != 0 || len(s.Pairs()) != 0 || s.Version() != 0 || s.Shared() || !sameSight(s.Sight(), api.TableSight{}) {
				t.Errorf("Len %d, %v, Version %d, Shared %t, %+v", s.Len(), s.Pairs(), s.Version(), s.Shared(), s.Sight())
			}
		}
	}
}

func TestP10_7ZeroFamily(t *testing.T) {
	var f shared.Family
	s := f.Make()
	for range 2 {
		if len(f.Names()) != 0 || !sameSight(f.Sight(), table.New(nil).Sight()) {
			t.Errorf("a zero Family: %q, %+v", f.Names(), f.Sight())
		}
		if s == nil || !s.Shared() || s.Len() != 0 || len(s.Pairs()) != 0 || s.Version() != 0 || !sameSight(s.Sight(), api.TableSight{}) {
			t.Fatalf("its Space: Shared %t, %v", s.Shared(), s.Pairs())
		}
		wantGet(t, s, "x", 0, false)
		if e, e2 := s.Set("x", 1), s.Del("x"); e != api.ErrFull || e2 != api.ErrNone {
			t.Errorf("Set: error %d, Del: error %d", e, e2)
		}
	}
}

// TestP10_8SharedOrNot: the same calls of a Space that is shared as long as it may be, and of one that is private from the first name on.
func TestP10_8SharedOrNot(t *testing.T) {
	f, _ := made(t, api.MaxShared, 6)
	g, _ := made(t, 0, 6)
	s, p := f.Make(), g.Make()
	script := []string{"x", "y", "x", "z", "-y", "w", "-q", "y", "-x", "x", "v", "u", "t", "-z", "t", "-t", "-t"}
	for i, word := range script {
		var e, e2 api.Errno
		if word[0] == '-' {
			e, e2 = s.Del(word[1:]), p.Del(word[1:])
		} else {
			e, e2 = s.Set(word, i), p.Set(word, i)
		}
		if e != e2 || told(s) != told(p) || s.Len() != p.Len() || s.Version() != p.Version() {
			t.Errorf("%q: errors %d, %d; %q, %q", word, e, e2, told(s), told(p))
		}
		for _, name := range []string{"x", "y", "z", "w", "v", "u", "t", "q"} {
			value, ok := p.Get(name)
			wantGet(t, s, name, value, ok)
		}
	}
	wantTold(t, "at the end", s, "w 5, y 7, x 9, v 10, u 11")
}

func TestP10_9NoNewTables(t *testing.T) {
	names := append(numbered(90), "", twins()[0], twins()[1])
	for _, room := range []int{len(names), len(names) + 1, api.MaxShared} {
		f, m := made(t, room, api.MaxPairs)
		for _, n := range []int{len(names) / 2, 3, len(names), 0} { // all so far in one order
			given(t, f, names[:n]...)
		}
		for n := range len(names) + 1 {
			m.Take()
			s := given(t, f, names[:n]...)
			if got := m.Take(); got != (api.Counts{Cells: got.Cells, Values: n}) || !s.Shared() || s.Len() != n {
				t.Errorf("the first %d: %+v, Shared %t", n, got, s.Shared())
			}
		}
	}
}

func TestP10_10PrivateForGood(t *testing.T) {
	f, m := made(t, 3, 9)
	given(t, f, "x", "y", "z")
	s := given(t, f, "y")
	u := given(t, f, "x", "y")
	u.Del("x")
	u.Del("y")
	m.Take()
	for _, p := range []*shared.Space{s, u} {
		p.Del("y")
		for _, name := range []string{"x", "y", "z"} { // the common order
			p.Set(name, 1)
			if p.Shared() {
				t.Errorf("shared again, at %q", name)
			}
		}
		wantTold(t, "the common order", p, "x 1, y 1, z 1")
	}
	if got := m.Take(); got.Values != 0 || got.Shifts != 0 {
		t.Errorf("the Meter has %+v", got)
	}
}

func TestP10_10OneSpaceAndAnother(t *testing.T) {
	f, _ := made(t, 4, 5)
	g, _ := made(t, 4, 5)
	names := []string{"x", "y", "z"}
	kept := []*shared.Space{given(t, f, names...), given(t, f, "z", "x"), given(t, f, "x"), f.Make(), given(t, g, names...)}
	var before []string
	for _, s := range kept {
		before = append(before, told(s))
	}
	other := f.Make()
	for i, word := range []string{"x", "x", "y", "z", "q", "w", "v", "-x", "-q", "v", "x", "-z", "-y"} {
		if word[0] == '-' {
			other.Del(word[1:])
		} else {
			other.Set(word, 1000+i)
		}
		for k, s := range kept {
			if told(s) != before[k] {
				t.Errorf("%q: another one: %q, was %q", word, told(s), before[k])
			}
		}
	}
	if !slices.Equal(g.Names(), names) {
		t.Errorf("another Family: %q", g.Names())
	}
}

func TestP10_11NewMemory(t *testing.T) {
	f, _ := made(t, 3, 9)
	s, p := given(t, f, "x", "y", "z"), given(t, f, "y", "x")
	spoil := func() {
		for _, x := range []*shared.Space{s, p} {
			pairs := x.Pairs()
			for i := range pairs {
				pairs[i] = api.Pair{Name: "spoilt", Value: -1}
			}
			_ = append(pairs[:1], api.Pair{})
		}
		names := f.Names()
		for i := range names {
			names[i] = "spoilt"
		}
		for _, sight := range []api.TableSight{f.Sight(), p.Sight()} {
			clear(sight.Cells)
			clear(sight.Entries)
		}
	}
	keys, own := f.Sight(), p.Sight()
	spoil()
	wantTold(t, "a shared one", s, "x 0, y 10, z 20")
	wantTold(t, "a private one", p, "y 0, x 10")
	if !slices.Equal(f.Names(), []string{"x", "y", "z"}) || !sameSight(f.Sight(), keys) || !sameSight(p.Sight(), own) {
		t.Errorf("Names %q, %+v, %+v", f.Names(), f.Sight(), p.Sight())
	}
	wantGet(t, s, "y", 10, true)
	wantGet(t, p, "x", 10, true)
	// What was answered stays, too.
	pairs, names := s.Pairs(), f.Names()
	s.Set("x", 77)
	s.Del("y")
	given(t, f, "x", "y", "z", "w")
	if pairs[0].Value != 0 || len(pairs) != 3 || len(names) != 3 || names[2] != "z" {
		t.Errorf("what was answered: %v, %q", pairs, names)
	}
}

func TestExamplesOfChapter10(t *testing.T) {
	f, m := made(t, 3, 10)
	s, u := f.Make(), f.Make()
	if e, e2 := s.Set("x", 1), s.Set("y", 2); e != api.OK || e2 != api.OK || !slices.Equal(f.Names(), []string{"x", "y"}) {
		t.Errorf("x and y: errors %d, %d; %q", e, e2, f.Names())
	}
	if e := u.Set("x", 5); e != api.OK || !u.Shared() {
		t.Errorf("t: error %d, Shared %t", e, u.Shared())
	}
	if e := u.Set("z", 6); e != api.OK || u.Shared() || !slices.Equal(f.Names(), []string{"x", "y"}) {
		t.Errorf("t: error %d, Shared %t, %q", e, u.Shared(), f.Names())
	}
	wantTold(t, "t", u, "x 5, z 6")
	if e, e2 := s.Set("z", 3), s.Set("w", 4); e != api.OK || e2 != api.OK || s.Shared() {
		t.Errorf("z and w: errors %d, %d; Shared %t", e, e2, s.Shared())
	}
	wantTold(t, "s", s, "x 1, y 2, z 3, w 4")
	if e, e2 := s.Del("x"), s.Set("x", 7); e != api.OK || e2 != api.OK {
		t.Errorf("x: errors %d, %d", e, e2)
	}
	wantTold(t, "s", s, "y 2, z 3, w 4, x 7")
	if e := s.Del("q"); e != api.ErrNone || s.Version() != 6 {
		t.Errorf("q: error %d, Version %d", e, s.Version())
	}
	if got := m.Read(); got != (api.Counts{Tables: 3, Cells: got.Cells, Values: 4, Shifts: 2}) || got.Cells < 9 {
		t.Errorf("the Meter has %+v", got)
	}
}

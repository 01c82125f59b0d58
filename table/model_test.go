package table_test

import (
	"math"
	"math/rand"
	"slices"
	"testing"

	"lexicon/api"
	"lexicon/meter"
	"lexicon/table"
)

// model is a table word by word as the document says it, in the plainest way.
type model struct {
	log     int
	cells   []int
	entries []api.Entry
	births  int
	made    int
}

func newModel() *model {
	m := &model{}
	m.index(3)
	return m
}

// cellsOf is the first n cells of a hash's trail.
func cellsOf(hash, log, n int) []int {
	size := uint64(1) << log
	p := uint64(hash)
	cell := p % size
	var row []int
	for range n {
		row = append(row, int(cell))
		p /= 32
		cell = (5*cell + p + 1) % size
	}
	return row
}

func (m *model) index(log int) {
	m.log, m.cells = log, slices.Repeat([]int{api.Empty}, 1<<log)
	m.made++
	m.entries = slices.DeleteFunc(m.entries, func(e api.Entry) bool { return !e.Live })
	for i := range m.entries {
		m.lay(i)
	}
}

func (m *model) lay(i int) {
	for _, cell := range cellsOf(m.entries[i].Hash, m.log, len(m.cells)+api.Steps) {
		if m.cells[cell] == api.Empty {
			m.cells[cell] = i
			return
		}
	}
	panic("no Empty cell")
}

func (m *model) live() int {
	n := 0
	for _, e := range m.entries {
		if e.Live {
			n++
		}
	}
	return n
}

func (m *model) add(hash, key, value int) int {
	if len(m.entries) == len(m.cells)*2/3 {
		log := 3
		for 1<<log < 3*m.live() {
			log++
		}
		m.index(log)
	}
	m.entries = append(m.entries, api.Entry{Live: true, Hash: hash, Key: key, Value: value, Birth: m.births})
	m.births++
	m.lay(len(m.entries) - 1)
	return len(m.entries) - 1
}

func (m *model) has(entry int) bool {
	return entry >= 0 && entry < len(m.entries) && m.entries[entry].Live
}

func (m *model) put(entry, value int) api.Errno {
	if !m.has(entry) {
		return api.ErrNone
	}
	m.entries[entry].Value = value
	return api.OK
}

func (m *model) kill(entry int) api.Errno {
	if !m.has(entry) {
		return api.ErrNone
	}
	m.cells[slices.Index(m.cells, entry)] = api.Dead
	m.entries[entry] = api.Entry{}
	return api.OK
}

func (m *model) at(entry int) (api.Entry, api.Errno) {
	if !m.has(entry) {
		return api.Entry{}, api.ErrNone
	}
	return m.entries[entry], api.OK
}

func (m *model) clear() {
	m.entries = nil
	m.index(3)
}

func (m *model) copy() *model {
	c := &model{entries: slices.Clone(m.entries)}
	log := 3
	for (1<<log)*2/3 < m.live() {
		log++
	}
	c.index(log)
	c.births = len(c.entries)
	for i := range c.entries {
		c.entries[i].Birth = i
	}
	return c
}

// found is an answer of Next, with what Visited is then.
type found struct {
	entry   int
	ok      bool
	visited int
}

// seek is all answers of a Seeker, the first one that is false too.
func (m *model) seek(hash int) []found {
	var all []found
	last := -1
	for i, cell := range cellsOf(hash, m.log, len(m.cells)+api.Steps) {
		held := m.cells[cell]
		if held == api.Empty {
			return append(all, found{-1, false, i + 1})
		}
		if held > last && m.entries[held].Hash == hash {
			last = held
			all = append(all, found{held, true, i + 1})
		}
	}
	panic("no Empty cell")
}

func (m *model) sight() api.TableSight {
	width := 1
	if m.log > 7 {
		width = 2
	}
	if m.log > 15 {
		width = 4
	}
	return api.TableSight{Log: m.log, Width: width, Cells: m.cells, Entries: m.entries, Live: m.live(), Births: m.births, Made: m.made}
}

// sameSight tells whether two sights are one.
func sameSight(a, b api.TableSight) bool {
	return a.Log == b.Log && a.Width == b.Width && a.Live == b.Live && a.Births == b.Births && a.Made == b.Made &&
		slices.Equal(a.Cells, b.Cells) && slices.Equal(a.Entries, b.Entries)
}

// wantSight holds a table against what it is to be.
func wantSight(t *testing.T, what string, x *table.Table, want api.TableSight) {
	t.Helper()
	if got := x.Sight(); !sameSight(got, want) {
		t.Fatalf("%s: got %+v, want %+v", what, got, want)
	}
	if x.Len() != want.Live {
		t.Fatalf("%s: Len: got %d, want %d", what, x.Len(), want.Live)
	}
}

// sought is all answers of a new Seeker.
func sought(x *table.Table, hash int) []found {
	s := x.Seek(hash)
	var all []found
	for {
		i, ok := s.Next()
		all = append(all, found{i, ok, s.Visited()})
		if !ok {
			return all
		}
	}
}

// numbered is an entry with its number.
type numbered struct {
	number int
	entry  api.Entry
}

// liveOnes are the live entries, with their numbers.
func liveOnes(entries []api.Entry) []numbered {
	var row []numbered
	for i, e := range entries {
		if e.Live {
			row = append(row, numbered{i, e})
		}
	}
	return row
}

// gone is all that All goes through.
func gone(x *table.Table) []numbered {
	var row []numbered
	for i, e := range x.All() {
		row = append(row, numbered{i, e})
	}
	return row
}

// goneBack is all that Back goes through.
func goneBack(x *table.Table) []numbered {
	var row []numbered
	for i, e := range x.Back() {
		row = append(row, numbered{i, e})
	}
	return row
}

// mustAdd adds an entry, which is to have that number.
func mustAdd(t *testing.T, x *table.Table, hash, key, value, want int) {
	t.Helper()
	if n, e := x.Add(hash, key, value); n != want || e != api.OK {
		t.Fatalf("Add(%d, %d, %d): got %d, error %d, want %d", hash, key, value, n, e, want)
	}
}

// filled is a table, and its model, of n entries whose hashes are given by a rule.
func filled(t *testing.T, m *meter.Meter, n int, hash func(i int) int) (*table.Table, *model) {
	t.Helper()
	x, y := table.New(m), newModel()
	for i := range n {
		mustAdd(t, x, hash(i), 100+i, 200+i, y.add(hash(i), 100+i, 200+i))
	}
	return x, y
}

// kill kills an entry of a table and of its model.
func kill(t *testing.T, x *table.Table, y *model, entry int) {
	t.Helper()
	if got, want := x.Kill(entry), y.kill(entry); got != want {
		t.Fatalf("Kill(%d): got %d, want %d", entry, got, want)
	}
}

// rules are kinds of hashes: all unlike, all the same, ones that meet at their first cells alone, edges.
var rules = []struct {
	name string
	hash func(i int) int
}{
	{"unlike", func(i int) int { return i }},
	{"the same", func(i int) int { return 5 }},
	{"all 0", func(i int) int { return 0 }},
	{"all -1", func(i int) int { return -1 }},
	{"the lowest", func(i int) int { return math.MinInt }},
	{"the highest", func(i int) int { return math.MaxInt }},
	{"at the first cell alone", func(i int) int { return 3 + i<<20 }},
	{"two of them", func(i int) int { return i % 2 }},
	{"below 0", func(i int) int { return -7 * i }},
	{"the ends", func(i int) int { return []int{math.MinInt, math.MaxInt, 0, -1, math.MinInt + 1}[i%5] }},
	{"a trail that stands still", func(i int) int { return 224 }},
}

// drawHashes are the hashes that a game draws from: few, so that they meet.
func drawHashes(draw *rand.Rand) func() int {
	some := []int{0, 1, 5, 13, -1, 8, 1 << 60, 33, 224, math.MinInt, math.MaxInt}
	draw.Shuffle(len(some), func(i, j int) { some[i], some[j] = some[j], some[i] })
	some = some[:1+draw.Intn(len(some))]
	wild := draw.Intn(4)
	return func() int {
		if draw.Intn(4) < wild {
			return int(draw.Uint64())
		}
		return some[draw.Intn(len(some))]
	}
}

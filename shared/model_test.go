package shared_test

import (
	"math"
	"math/rand"
	"slices"
	"strconv"
	"testing"

	"lexicon/api"
	"lexicon/digest"
	"lexicon/meter"
	"lexicon/shared"
	"lexicon/table"
)

// family is a Family, word by word as the chapter says it.
type family struct {
	names, most int
	m           *meter.Meter
	keys        *table.Table
	shared      []string // the key table's
	given       []string // by their numbers
}

// space is a Space: a sequence, and beside it what the chapter says of tables.
type space struct {
	of      *family
	pairs   []api.Pair
	private *table.Table // nil: it is shared
	version int
}

func newFamily(names, most int) *family {
	m := &meter.Meter{}
	return &family{names: names, most: most, m: m, keys: table.New(m)}
}

func (f *family) number(name string) int {
	if !slices.Contains(f.given, name) {
		f.given = append(f.given, name)
	}
	return slices.Index(f.given, name)
}

func (s *space) place(name string) int {
	return slices.IndexFunc(s.pairs, func(p api.Pair) bool { return p.Name == name })
}

// look visits the cells that are to be visited; what it finds is not asked for.
func (s *space) look(name string) {
	x := s.of.keys
	if s.private != nil {
		x = s.private
	}
	seeker := x.Seek(digest.Text(name))
	for {
		i, ok := seeker.Next()
		if !ok {
			return
		}
		if e, _ := x.At(i); s.of.given[e.Key] == name {
			return
		}
	}
}

// entry is the number of a name's entry in the table of a private one.
func (s *space) entry(name string) int {
	for i, e := range s.private.All() {
		if s.of.given[e.Key] == name {
			return i
		}
	}
	return -1
}

func (s *space) turn() {
	s.private = table.New(s.of.m)
	for _, p := range s.pairs {
		s.private.Add(digest.Text(p.Name), slices.Index(s.of.given, p.Name), p.Value)
	}
	s.of.m.Turn()
}

func (s *space) get(name string) (int, bool) {
	s.look(name)
	if i := s.place(name); i >= 0 {
		return s.pairs[i].Value, true
	}
	return 0, false
}

func (s *space) set(name string, value int) api.Errno {
	s.look(name)
	f, n := s.of, len(s.pairs)
	if i := s.place(name); i >= 0 {
		s.pairs[i].Value = value
		if s.private != nil {
			s.private.Put(s.entry(name), value)
		}
		s.version++
		return api.OK
	}
	if n == f.most {
		return api.ErrFull
	}
	if s.private == nil {
		switch {
		case len(f.shared) > n && f.shared[n] == name:
			f.m.Charge(1)
		case len(f.shared) == n && n < f.names:
			f.keys.Add(digest.Text(name), f.number(name), 0)
			f.shared = append(f.shared, name)
			f.m.Charge(1)
		default:
			s.turn()
		}
	}
	if s.private != nil {
		s.private.Add(digest.Text(name), f.number(name), value)
	}
	s.pairs = append(s.pairs, api.Pair{Name: name, Value: value})
	s.version++
	return api.OK
}

func (s *space) del(name string) api.Errno {
	s.look(name)
	i := s.place(name)
	if i < 0 {
		return api.ErrNone
	}
	if s.private == nil {
		s.turn()
	}
	s.private.Kill(s.entry(name))
	s.pairs = slices.Delete(s.pairs, i, i+1)
	s.version++
	return api.OK
}

func sameSight(a, b api.TableSight) bool {
	return a.Log == b.Log && a.Width == b.Width && slices.Equal(a.Cells, b.Cells) && slices.Equal(a.Entries, b.Entries) &&
		a.Live == b.Live && a.Births == b.Births && a.Made == b.Made
}

// game is a Family and its Spaces beside the model's.
type game struct {
	t      *testing.T
	m      *meter.Meter
	f      *shared.Family
	y      *family
	spaces []*shared.Space
	models []*space
	pool   []string // the names that are played with
}

func newGame(t *testing.T, names, most int, pool []string) *game {
	t.Helper()
	m := &meter.Meter{}
	f, e := shared.New(names, most, m)
	if f == nil || e != api.OK {
		t.Fatalf("New(%d, %d): error %d", names, most, e)
	}
	return &game{t: t, m: m, f: f, y: newFamily(names, most), pool: pool}
}

func (g *game) make() {
	g.spaces = append(g.spaces, g.f.Make())
	g.models = append(g.models, &space{of: g.y})
}

func (g *game) set(i int, name string, value int) {
	g.t.Helper()
	if got, want := g.spaces[i].Set(name, value), g.models[i].set(name, value); got != want {
		g.t.Fatalf("P10.4: Set(%q, %d) of %d: error %d, want %d", name, value, i, got, want)
	}
	g.counted("Set(" + strconv.Quote(name) + ")")
}

func (g *game) del(i int, name string) {
	g.t.Helper()
	if got, want := g.spaces[i].Del(name), g.models[i].del(name); got != want {
		g.t.Fatalf("P10.5: Del(%q) of %d: error %d, want %d", name, i, got, want)
	}
	g.counted("Del(" + strconv.Quote(name) + ")")
}

func (g *game) get(i int, name string) {
	g.t.Helper()
	value, ok := g.spaces[i].Get(name)
	if want, has := g.models[i].get(name); value != want || ok != has {
		g.t.Fatalf("P10.3: Get(%q) of %d: %d, %t, want %d, %t", name, i, value, ok, want, has)
	}
	g.counted("Get(" + strconv.Quote(name) + ")")
}

// counted holds the Meters against each other.
func (g *game) counted(what string) {
	g.t.Helper()
	if got, want := g.m.Read(), g.y.m.Read(); got != want {
		g.t.Fatalf("P10.6: behind %s the Meter has %+v, want %+v", what, got, want)
	}
}

// hold holds all that can be told against the model.
func (g *game) hold() {
	g.t.Helper()
	if got := g.f.Names(); !slices.Equal(got, g.y.shared) {
		g.t.Fatalf("P10.1: Names: %q, want %q", got, g.y.shared)
	}
	if got, want := g.f.Sight(), g.y.keys.Sight(); !sameSight(got, want) {
		g.t.Fatalf("P10.1: Sight of the Family: %+v, want %+v", got, want)
	}
	for i := range g.spaces {
		g.holdSpace(i)
	}
	g.counted("what only looks")
}

func (g *game) holdSpace(i int) {
	g.t.Helper()
	s, y := g.spaces[i], g.models[i]
	if got := s.Pairs(); !slices.Equal(got, y.pairs) {
		g.t.Fatalf("P10.8: Pairs of %d: %v, want %v", i, got, y.pairs)
	}
	if s.Len() != len(y.pairs) || s.Version() != y.version || s.Shared() != (y.private == nil) {
		g.t.Fatalf("P10.3: %d: Len %d, Version %d, Shared %t; want %d, %d, %t", i, s.Len(), s.Version(), s.Shared(), len(y.pairs), y.version, y.private == nil)
	}
	if got, want := s.Sight(), y.private.Sight(); !sameSight(got, want) {
		g.t.Fatalf("P10.3: Sight of %d: %+v, want %+v", i, got, want)
	}
	if y.private != nil {
		return
	}
	for k, p := range s.Pairs() {
		if g.f.Names()[k] != p.Name {
			g.t.Fatalf("a shared one's name number %d is %q, of %q", k, p.Name, g.f.Names())
		}
	}
}

// pools are the names of games: few of them, and pairs of one hash.
func pools() [][]string {
	few := []string{"", "x", "y", "z", "w", "q"}
	some := slices.Concat(few, twins(), []string{"__init__", "\u00f1", "\xff", "a\x00", "a"})
	many := slices.Clone(some)
	for i := range 40 {
		many = append(many, "n"+strconv.Itoa(i))
	}
	return [][]string{few, some, many}
}

// common is mostly the next name of the common order, else any one.
func (g *game) common(r *rand.Rand, i int) string {
	n := len(g.models[i].pairs)
	if r.Intn(8) > 0 && n < len(g.pool) {
		return g.pool[n]
	}
	return g.pool[r.Intn(len(g.pool))]
}

// step does one thing to a Space.
func (g *game) step(r *rand.Rand) {
	g.t.Helper()
	i := r.Intn(len(g.spaces))
	switch n := r.Intn(20); {
	case n < 9:
		g.set(i, g.common(r, i), int(r.Uint64()))
	case n < 13:
		g.set(i, g.pool[r.Intn(len(g.pool))], []int{0, -1, math.MinInt, math.MaxInt}[r.Intn(4)])
	case n < 17:
		g.get(i, g.pool[r.Intn(len(g.pool))])
	case n < 19:
		g.del(i, g.pool[r.Intn(len(g.pool))])
	default:
		g.make()
	}
}

// TestP10_8Games plays Spaces of one Family, in turns, against the model: what they tell, on what they stand, and what is counted behind each call.
func TestP10_8Games(t *testing.T) {
	limits := []int{0, 1, 2, 3, 5, 6, 11, 30, api.MaxShared}
	shifts, values := 0, 0
	for seed := range 400 {
		r := rand.New(rand.NewSource(int64(seed)))
		pool := pools()[r.Intn(3)]
		g := newGame(t, limits[r.Intn(len(limits))], limits[r.Intn(len(limits))], pool)
		g.make()
		g.make()
		for range 150 {
			g.step(r)
			g.hold()
		}
		shifts += g.m.Read().Shifts
		values += g.m.Read().Values
	}
	if shifts < 400 || values < 1000 {
		t.Errorf("%d turned, %d values: the games are too tame", shifts, values)
	}
}

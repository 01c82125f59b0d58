package probe_test

import (
	"math"
	"math/rand"
	"slices"
	"testing"

	"lexicon/api"
	"lexicon/meter"
	"lexicon/probe"
	"lexicon/table"
)

// model is a Dict as the document's sequence of pairs. The table beside it is given what that of the Dict is to be given: it knows the entries' numbers and the cells that are visited, which the sequence does not.
type model struct {
	most    int
	pairs   []api.Entry
	births  int
	version int
	table   *table.Table
}

func newModel(most int, m *meter.Meter) *model {
	return &model{most: most, table: table.New(m)}
}

func (y *model) add(hash, key, value int) int {
	number, _ := y.table.Add(hash, key, value)
	y.pairs = append(y.pairs, api.Entry{Live: true, Hash: hash, Key: key, Value: value, Birth: y.births})
	y.births++
	y.version++
	return number
}

func (y *model) put(place, value int) {
	y.table.Put(y.number(place), value)
	y.pairs[place].Value = value
	y.version++
}

func (y *model) take(place int) (api.Entry, api.Errno) {
	if place < 0 || place >= len(y.pairs) {
		return api.Entry{}, api.ErrNone
	}
	taken := y.pairs[place]
	y.table.Kill(y.number(place))
	y.pairs = slices.Delete(y.pairs, place, place+1)
	y.version++
	return taken, api.OK
}

func (y *model) clear() {
	y.table.Clear()
	y.pairs = nil
	y.version++
}

func (y *model) copy() *model {
	c := &model{most: y.most, pairs: slices.Clone(y.pairs), births: len(y.pairs), table: y.table.Copy()}
	for i := range c.pairs {
		c.pairs[i].Birth = i
	}
	return c
}

// number is that of the entry of a pair.
func (y *model) number(place int) int {
	for i, e := range y.table.All() {
		if e.Birth == y.pairs[place].Birth {
			return i
		}
	}
	panic("a pair without an entry")
}

// lookup is a Machine, word by word.
type lookup struct {
	of                     *model
	goal, hash, key, value int
	waits, ended           bool
	turn                   api.Turn
	same                   bool
	asked                  int // the place of the pair that it waited at
	next                   int // the place from which the scan goes on
	version, scans         int
	seeker                 *table.Seeker
	cells                  int // of the table, when the scan began
}

func (l *lookup) step() api.Turn {
	if l.ended || l.waits {
		return l.turn
	}
	if l.scans == 0 || l.version != l.of.version {
		l.scans++
		l.version, l.next = l.of.version, 0
		l.seeker = l.of.table.Seek(l.hash)
		l.cells = len(l.of.table.Sight().Cells)
	} else if l.same {
		return l.end(l.hit(l.asked))
	}
	for l.next < len(l.of.pairs) {
		place := l.next
		l.next++
		if l.of.pairs[place].Hash != l.hash {
			continue
		}
		l.seeker.Next()
		if l.of.pairs[place].Key == l.key {
			return l.end(l.hit(place))
		}
		l.asked, l.waits = place, true
		l.turn = ask(l.of.pairs[place].Key)
		return l.turn
	}
	l.seeker.Next()
	return l.end(l.miss())
}

func (l *lookup) tell(same bool) api.Errno {
	if !l.waits {
		return api.ErrState
	}
	l.waits, l.same = false, same
	return api.OK
}

func (l *lookup) end(turn api.Turn) api.Turn {
	l.ended, l.turn = true, turn
	return turn
}

func (l *lookup) hit(place int) api.Turn {
	turn := done(true, l.of.pairs[place].Value, l.of.number(place))
	switch l.goal {
	case api.GoalPut:
		l.of.put(place, l.value)
	case api.GoalDelete:
		l.of.take(place)
	}
	return turn
}

func (l *lookup) miss() api.Turn {
	if l.goal == api.GoalGet || l.goal == api.GoalDelete {
		return done(false, 0, -1)
	}
	if len(l.of.pairs) == l.of.most {
		return full()
	}
	return done(false, l.value, l.of.add(l.hash, l.key, l.value))
}

func done(found bool, value, entry int) api.Turn {
	return api.Turn{Kind: api.TurnDone, Found: found, Value: value, Entry: entry}
}

func ask(key int) api.Turn { return api.Turn{Kind: api.TurnAsk, Key: key} }

func full() api.Turn { return api.Turn{Kind: api.TurnFull} }

// player is a machine, and its model.
type player struct {
	got  *probe.Machine
	want *lookup
}

// game is a Dict and its machines, and the models of them.
type game struct {
	t        *testing.T
	draw     *rand.Rand
	hashes   []int
	d        *probe.Dict
	y        *model
	counted  *meter.Meter
	expected *meter.Meter
	players  []player
}

func newGame(t *testing.T, seed int) *game {
	draw := rand.New(rand.NewSource(int64(seed)))
	hashes := []int{0, 1, 7, -1, 8, 224, 1 << 60, -9, math.MinInt, math.MaxInt}
	draw.Shuffle(len(hashes), func(i, j int) { hashes[i], hashes[j] = hashes[j], hashes[i] })
	most := []int{0, 1, 2, 5, 6, 20, 200, api.MaxPairs}[draw.Intn(8)]
	g := &game{t: t, draw: draw, hashes: hashes[:1+draw.Intn(len(hashes))], counted: &meter.Meter{}, expected: &meter.Meter{}}
	g.d, _ = probe.New(most, g.counted)
	g.y = newModel(most, g.expected)
	return g
}

// begin sets a machine to work, in the place of another one, if there are some already.
func (g *game) begin() {
	l := &lookup{of: g.y, goal: 1 + g.draw.Intn(4), hash: g.hashes[g.draw.Intn(len(g.hashes))], key: g.draw.Intn(12), value: g.draw.Intn(1000)}
	p := player{g.d.Begin(l.goal, l.hash, l.key, l.value), l}
	if len(g.players) < 4 {
		g.players = append(g.players, p)
	} else {
		g.players[g.draw.Intn(4)] = p
	}
}

// goOn steps a machine, or tells it something, whether it waits or not.
func (g *game) goOn() {
	g.t.Helper()
	if len(g.players) == 0 {
		return
	}
	p := g.players[g.draw.Intn(len(g.players))]
	if g.draw.Intn(3) == 0 {
		same := g.draw.Intn(5) == 0
		if got, want := p.got.Tell(same), p.want.tell(same); got != want {
			g.t.Fatalf("P8.4: Tell: got %d, want %d", got, want)
		}
		return
	}
	wantTurn(g.t, "P8.10: a game", p.got.Step(), p.want.step())
	if p.got.Scan() > p.want.cells+api.Steps {
		g.t.Fatalf("P8.12: %d cells visited of %d", p.got.Scan(), p.want.cells)
	}
}

func (g *game) takeEnd() {
	g.t.Helper()
	take, place := g.d.First, 0
	if g.draw.Intn(2) == 0 {
		take, place = g.d.Last, len(g.y.pairs)-1
	}
	got, e := take()
	want, e2 := g.y.take(place)
	if got != want || e != e2 {
		g.t.Fatalf("P8.7: got %+v, error %d, want %+v, %d", got, e, want, e2)
	}
}

// copy goes on with a copy; the machines of what was copied are played no more.
func (g *game) copy() {
	g.d, g.y = g.d.Copy(), g.y.copy()
	g.players = nil
}

func (g *game) turn() {
	g.t.Helper()
	switch n := g.draw.Intn(100); {
	case n < 25:
		g.begin()
	case n < 92:
		g.goOn()
	case n < 97:
		g.takeEnd()
	case n < 99:
		g.copy()
	default:
		g.d.Clear()
		g.y.clear()
	}
	wantDict(g.t, "a game", g.d, g.y)
	for _, p := range g.players {
		if p.got.Scans() != p.want.scans || p.got.Scan() != p.want.seeker.Visited() {
			g.t.Fatalf("P8.8: Scans %d, Scan %d, want %d, %d", p.got.Scans(), p.got.Scan(), p.want.scans, p.want.seeker.Visited())
		}
	}
	if g.counted.Read() != g.expected.Read() {
		g.t.Fatalf("the Meter has %+v, want %+v", g.counted.Read(), g.expected.Read())
	}
}

func TestP8_10Games(t *testing.T) {
	for seed := range 400 {
		g := newGame(t, seed)
		for range 300 {
			g.turn()
		}
	}
}

func wantTurn(t *testing.T, what string, got, want api.Turn) {
	t.Helper()
	if got != want {
		t.Fatalf("%s: got %+v, want %+v", what, got, want)
	}
}

func sameSight(a, b api.TableSight) bool {
	return a.Log == b.Log && a.Width == b.Width && a.Live == b.Live && a.Births == b.Births && a.Made == b.Made &&
		slices.Equal(a.Cells, b.Cells) && slices.Equal(a.Entries, b.Entries)
}

// wantDict holds all that a Dict tells against its model.
func wantDict(t *testing.T, what string, d *probe.Dict, y *model) {
	t.Helper()
	if d.Len() != len(y.pairs) || d.Version() != y.version {
		t.Fatalf("%s: Len %d, Version %d, want %d, %d", what, d.Len(), d.Version(), len(y.pairs), y.version)
	}
	if got := d.Pairs(); !slices.Equal(got, y.pairs) {
		t.Fatalf("%s: Pairs: got %+v, want %+v", what, got, y.pairs)
	}
	if got, want := d.Sight(), y.table.Sight(); !sameSight(got, want) {
		t.Fatalf("%s: Sight: got %+v, want %+v", what, got, want)
	}
}

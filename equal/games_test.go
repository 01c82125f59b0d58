package equal_test

import (
	"fmt"
	"math/rand"
	"strings"
	"testing"

	"lexicon/api"
	"lexicon/equal"
	"lexicon/whole"
)

const (
	gamePairs = 6
	nought    = 1 // the place of an int 0 in each list of terms
)

// dice is what comes by chance.
type dice struct{ *rand.Rand }

func (r dice) of(list ...int) int { return list[r.Intn(len(list))] }

// terms is a list of terms that Build takes. Rings: lists may have what stands
// behind them.
func (r dice) terms(count int, rings, instances bool) []api.Term {
	kinds := []int{1, 2, 3, 3, 3, 4, 5, 5, 5, 6, 6, 6, 7, 7, 7, 8, 9, api.ValKeys, api.ValValues, api.ValItems, api.ValItems, api.ValItems}
	if instances {
		kinds = append(kinds, 14, 14, 14, 14, 14, 14, 14, 14)
	}
	terms := []api.Term{num(1), num(0), num(2)}
	for len(terms) < count {
		x := api.Term{Kind: r.of(kinds...), Bool: r.Intn(2) == 0, Hash: r.Intn(2) == 0, Same: r.Intn(3) > 0, Num: whole.Of(r.of(-1, 0, 1, 1, 2)), Text: []string{"", "a"}[r.Intn(2)]}
		if x.Kind != api.ValInstance {
			x.Hash, x.Same = false, false
		}
		if r.kids(&x, terms, count, rings) {
			terms = append(terms, x)
		}
	}
	return terms
}

// kids gives a term its Kids; false, if there are none such.
func (r dice) kids(x *api.Term, ahead []api.Term, count int, rings bool) bool {
	var simple, dicts, instances []int
	for i, t := range ahead {
		if t.Kind == api.ValInstance {
			instances = append(instances, i)
		}
		if t.Kind <= api.ValStr || t.Kind == api.ValInstance && (t.Hash || !t.Same) {
			simple = append(simple, i)
		}
		if t.Kind == api.ValDict {
			dicts = append(dicts, i)
		}
	}
	if len(simple) == 0 {
		return x.Kind <= api.ValStr
	}
	any := func() int {
		if len(instances) > 0 && r.Intn(3) == 0 {
			return r.of(instances...)
		}
		return r.Intn(len(ahead))
	}
	key := func() int {
		if at := r.of(simple...); r.Intn(2) == 0 || ahead[at].Kind == api.ValInstance {
			return at
		}
		return r.of(simple...)
	}
	if x.Kind == api.ValList && rings && r.Intn(2) == 0 {
		x.Kids = []int{r.of(simple...), len(ahead)}[r.Intn(2):] // it has itself
		return true
	}
	for range r.Intn(4) {
		switch x.Kind {
		case api.ValTuple:
			x.Kids = append(x.Kids, any())
		case api.ValList:
			if rings && r.Intn(3) == 0 {
				x.Kids = append(x.Kids, len(ahead)+r.Intn(count-len(ahead)))
			} else {
				x.Kids = append(x.Kids, any())
			}
		case api.ValDict:
			x.Kids = append(x.Kids, key(), any())
		case api.ValSet, api.ValFrozen:
			x.Kids = append(x.Kids, key())
		}
	}
	if x.Kind == api.ValKeys || x.Kind == api.ValValues || x.Kind == api.ValItems {
		if len(dicts) == 0 {
			return false
		}
		x.Kids = []int{r.of(dicts...)}
	}
	return true
}

// game is a world, and one thing that a machine does in it.
type game struct {
	r       dice
	terms   []api.Term
	ahead   []change // done to the world first
	model   *model
	places  map[int][]int // of the things of a kind
	focus   []int         // the places of what the machine goes through
	machine func(k kit) *equal.Machine
	do      func() answer
	name    string
}

func newGame(t *testing.T, seed int) *game {
	g := &game{r: dice{rand.New(rand.NewSource(int64(seed)))}, places: map[int][]int{}}
	g.terms = g.r.terms(8+g.r.Intn(22), true, true)
	g.model = &model{most: gamePairs}
	g.model.take(g.terms, g.bare(t).v)
	g.model.extraThings()
	for i, x := range g.model.things {
		g.places[x.kind] = append(g.places[x.kind], i)
	}
	for range g.r.Intn(8) {
		if c, ok := g.change(changePut, changePut, changePut, changeAppend); ok {
			g.model.change(c)
			g.ahead = append(g.ahead, c)
		}
	}
	g.model.oracle = g.oracle
	g.choose()
	return g
}

// bare is a Store with the game's terms and the extras, fresh.
func (g *game) bare(t *testing.T) kit {
	k := builtOf(t, gamePairs, g.terms...)
	k.extras()
	return k
}

// any is the place of a thing; one of these kinds, where there is one.
func (g *game) any(kinds ...int) int {
	var list []int
	for _, kind := range kinds {
		list = append(list, g.places[kind]...)
	}
	if len(list) == 0 {
		return g.r.Intn(len(g.model.things))
	}
	return g.r.of(list...)
}

// look makes what has the rows or the pairs of a thing more likely to be
// changed.
func (g *game) look(of *thing) {
	for i, x := range g.model.things {
		if x == of || of.dict != nil && x.dict == of.dict {
			g.focus = append(g.focus, i)
		}
	}
}

// change is one of these.
func (g *game) change(whats ...int) (change, bool) {
	c := change{what: g.r.of(whats...), key: g.r.Intn(len(g.model.things)), value: g.r.Intn(len(g.model.things)), other: g.r.Intn(100)}
	kinds := []int{api.ValDict, api.ValDict, api.ValSet, api.ValFrozen}
	if c.what >= changeAppend {
		kinds = []int{api.ValList}
	}
	c.of = g.any(kinds...)
	if len(g.focus) > 0 && g.r.Intn(2) == 0 {
		c.of = g.r.of(g.focus...)
	}
	c.hash = g.hash(g.model.things[c.key])
	kind := g.model.things[c.of].kind
	return c, kind == kinds[0] || c.what < changeAppend && (kind == api.ValSet || kind == api.ValFrozen)
}

// hash is that of a thing, mostly, where nobody need be asked.
func (g *game) hash(x *thing) (hash int) {
	m := &model{oracle: func(int, int) (*thing, []change) { return &thing{kind: api.ValInt, n: g.r.Intn(3)}, nil }}
	hash = g.r.Intn(3)
	if g.r.Intn(4) > 0 {
		m.run(func() answer { hash = m.hash(x); return answer{} })
	}
	return hash
}

// oracle is what is told, and what is done ahead of that.
func (g *game) oracle(what, asked int) (told *thing, list []change) {
	told = g.model.things[g.any(api.ValInt, api.ValBool)]
	if g.r.Intn(12) == 0 {
		told = g.model.things[g.r.Intn(len(g.model.things))]
	}
	if what == api.AskSame && g.r.Intn(2) == 0 {
		told = g.model.things[nought]
	}
	if asked > mostAsks/2 || g.r.Intn(2) > 0 {
		return told, nil
	}
	for range 1 + g.r.Intn(2) {
		if c, ok := g.change(changePut, changePut, changeTake, changeTake, changeClear, changeAppend, changeCut, changeTurn); ok {
			list = append(list, c)
		}
	}
	return told, list
}

// choose is what the machine is to do.
func (g *game) choose() {
	switch g.r.Intn(6) {
	case 0:
		v := g.any([][]int{{api.ValTuple}, {api.ValInstance}, {api.ValFrozen}, nil}[g.r.Intn(4)]...)
		g.name = fmt.Sprint("Hash ", v)
		g.machine = func(k kit) *equal.Machine { return equal.Hash(k.Store, k.v[v]) }
		g.do = func() answer { return answer{kind: api.TurnDone, hash: g.model.hash(g.model.things[v])} }
	case 1, 2:
		kinds := [][]int{{api.ValTuple}, {api.ValList}, {api.ValDict}, {api.ValSet, api.ValFrozen, api.ValKeys, api.ValItems}, {api.ValItems}, {api.ValItems}, nil}[g.r.Intn(7)]
		a, b := g.any(kinds...), g.any(kinds...)
		g.look(g.model.things[a])
		g.look(g.model.things[b])
		g.name = fmt.Sprint("Same ", a, b)
		g.machine = func(k kit) *equal.Machine { return equal.Same(k.Store, k.v[a], k.v[b]) }
		g.do = func() answer {
			return answer{kind: api.TurnDone, yes: g.model.compare(g.model.things[a], g.model.things[b])}
		}
	case 3, 4:
		g.chooseLook()
	case 5:
		g.chooseHas()
	}
}

// sought is the place of a key that may well be there.
func (g *game) sought(q *sequence) int {
	if q != nil && len(q.pairs) > 0 && g.r.Intn(2) == 0 {
		if key := q.pairs[g.r.Intn(len(q.pairs))].key; key.place >= 0 {
			return key.place
		}
	}
	return g.any([][]int{{api.ValInstance}, {api.ValTuple}, nil}[g.r.Intn(3)]...)
}

func (g *game) chooseLook() {
	d := g.any(api.ValDict, api.ValDict, api.ValSet, api.ValFrozen)
	of := g.model.things[d]
	if of.dict == nil || of.kind > api.ValFrozen {
		g.chooseHas()
		return
	}
	g.look(of)
	goal, key, value := 1+g.r.Intn(4), g.sought(of.dict), g.any()
	g.name = fmt.Sprint("Look ", d, goal, key, value)
	g.machine = func(k kit) *equal.Machine {
		if of.kind == api.ValDict {
			return equal.Look(k.Store, k.v[d], goal, k.v[key], k.v[value])
		}
		return equal.Look(k.Store, k.v[d], goal, k.v[key], 0)
	}
	g.do = func() answer {
		x := g.model.things[key]
		var put *thing
		if of.kind == api.ValDict {
			put = g.model.things[value]
		}
		value, ok := g.model.goal(of.dict, goal, x, g.model.hash(x), put)
		return answer{kind: api.TurnDone, yes: ok, value: value}
	}
}

func (g *game) chooseHas() {
	in := g.any(api.ValTuple, api.ValList, api.ValDict, api.ValSet, api.ValFrozen, api.ValKeys, api.ValValues, api.ValItems)
	of := g.model.things[in]
	if of.kind < api.ValTuple || of.kind == api.ValVars || of.dict == nil && of.kind > api.ValList {
		g.name, g.machine = "nothing", func(kit) *equal.Machine { return nil }
		g.do = func() answer { return answer{} }
		return
	}
	g.look(of)
	v := g.sought(of.dict)
	if of.kind == api.ValItems && g.r.Intn(3) > 0 {
		v = g.any(api.ValTuple)
	}
	g.name = fmt.Sprint("Has ", in, v)
	g.machine = func(k kit) *equal.Machine { return equal.Has(k.Store, k.v[in], k.v[v]) }
	g.do = func() answer { return answer{kind: api.TurnDone, yes: g.model.has(of, g.model.things[v])} }
}

// refers tells whether a reference is that of a thing; 0 is of none.
func (k kit) refers(v int, x *thing) bool {
	switch {
	case x == nil:
		return v == 0
	case x.place >= 0:
		return v == k.v[x.place]
	}
	return k.Kind(v) == x.kind && k.Number(v) == x.number
}

func (k kit) matches(got api.Ask, want answer) bool {
	return got.Kind == want.kind && got.What == want.what && k.refers(got.A, want.a) && k.refers(got.B, want.b) &&
		got.Hash == want.hash && got.Yes == want.yes && k.refers(got.Value, want.value) && got.Why == want.why
}

// replay plays the game with a machine, in Steps of the lengths that cut tells.
func (g *game) replay(t *testing.T, what string, cut func() int) {
	t.Helper()
	k := g.bare(t)
	for _, c := range g.ahead {
		k.change(c)
	}
	m := g.machine(k)
	turns := 0
	for i, e := range g.model.events {
		for left := e.turns; ; {
			most := cut()
			if e.answer.kind == 0 && max(most, 0) > left {
				return // the model does not know how this goes on
			}
			got := m.Step(most)
			if max(most, 0) < left || e.answer.kind == 0 {
				left -= max(most, 0)
				turns += max(most, 0)
				if got != more || m.Turns() != turns {
					t.Fatalf("%s, %s, event %d: Step(%d): %v, %d turns, want %d", g.name, what, i, most, got, m.Turns(), turns)
				}
				continue
			}
			turns += left
			if !k.matches(got, e.answer) || m.Turns() != turns {
				t.Fatalf("%s, %s, event %d: %+v, %d turns, want %+v, %d", g.name, what, i, got, m.Turns(), e.answer, turns)
			}
			break
		}
		if m.Step(cut()) != m.Step(0) || m.Turns() != turns {
			t.Fatalf("%s, %s, event %d: it is not the same again", g.name, what, i)
		}
		if e.told == nil {
			break
		}
		for _, c := range e.changes {
			k.change(c)
		}
		if got := m.Tell(-1); got != api.ErrArg {
			t.Fatalf("%s, %s, event %d: Tell of no value: %d", g.name, what, i, got)
		}
		if got := m.Tell(k.v[e.told.place]); got != api.OK {
			t.Fatalf("%s, %s, event %d: Tell: %d", g.name, what, i, got)
		}
	}
	g.check(t, what, k)
}

// check holds the world behind the game against the model's.
func (g *game) check(t *testing.T, what string, k kit) {
	t.Helper()
	if k.Live() != g.model.last {
		t.Fatalf("%s, %s: Live %d, want %d", g.name, what, k.Live(), g.model.last)
	}
	for i, x := range g.model.things {
		ok := true
		switch x.kind {
		case api.ValTuple, api.ValList:
			parts := k.Parts(k.v[i])
			ok = len(parts) == len(x.row)
			for n := 0; ok && n < len(parts); n++ {
				ok = k.refers(parts[n], x.row[n])
			}
		case api.ValDict, api.ValSet, api.ValFrozen:
			pairs := k.dict(k.v[i]).Pairs()
			ok = len(pairs) == len(x.dict.pairs)
			for n := 0; ok && n < len(pairs); n++ {
				p := x.dict.pairs[n]
				ok = k.refers(pairs[n].Key, p.key) && pairs[n].Hash == p.hash && k.refers(pairs[n].Value, p.value)
			}
		}
		if !ok {
			t.Fatalf("%s, %s: thing %d of the kind %d is another one", g.name, what, i, x.kind)
		}
	}
}

// TestP20_11Games plays games with machines, cut in many ways, and holds what
// they ask, what comes and what is behind that against the model.
func TestP20_11Games(t *testing.T) {
	counts := map[string]int{}
	for seed := range 20000 {
		g := newGame(t, seed)
		made := g.model.last
		g.model.run(g.do)
		if g.name == "nothing" {
			continue
		}
		r := dice{rand.New(rand.NewSource(int64(seed)))}
		what := fmt.Sprint("seed ", seed)
		g.replay(t, what+", at once", func() int { return mostTurns })
		g.replay(t, what+", one by one", func() int { return 1 })
		g.replay(t, what+", by chance", func() int { return r.of(-5, 0, 1, 1, 2, 3, 7, 30) })
		g.count(counts, made)
	}
	for name, least := range map[string]int{
		"Hash Done": 500, "Hash Fail": 500, "Same Done": 2000, "Same Fail": 100, "Look Done": 2000, "Look Fail": 500, "Look Full": 10, "Has Done": 500, "Has Fail": 100,
		"yes": 1000, "asked": 2000, "asked twice": 500, "anew": 100, "gathered": 300, "left": 10,
	} {
		if counts[name] < least {
			t.Errorf("the games had %q only %d times", name, counts[name])
		}
	}
}

// count notes what a game had.
func (g *game) count(counts map[string]int, made int) {
	last := g.model.events[len(g.model.events)-1].answer
	op, _, _ := strings.Cut(g.name, " ")
	switch last.kind {
	case api.TurnDone:
		counts[op+" Done"]++
	case api.TurnFail:
		counts[op+" Fail"]++
	case api.TurnFull:
		counts[op+" Full"]++
	default:
		counts["left"]++
	}
	for name, so := range map[string]bool{"yes": last.yes, "asked": g.model.asked > 0, "asked twice": g.model.asked > 1, "anew": g.model.anew > 0, "gathered": g.model.last > made} {
		if so {
			counts[name]++
		}
	}
}

// TestP20_9: on values without instances, and without a list within itself,
// nothing is asked, and everything ends.
func TestP20_9Ends(t *testing.T) {
	for seed := range 300 {
		r := dice{rand.New(rand.NewSource(int64(seed)))}
		k := builtOf(t, 30, r.terms(25, false, false)...)
		var machines []*equal.Machine
		for _, a := range k.v {
			machines = append(machines, equal.Hash(k.Store, a))
			for _, b := range k.v {
				machines = append(machines, equal.Same(k.Store, a, b), equal.Has(k.Store, a, b), equal.Look(k.Store, a, api.GoalGet, b, 0))
			}
		}
		for i, m := range machines {
			if m == nil {
				continue
			}
			if ask := m.Step(1 << 20); ask.Kind != api.TurnDone && ask.Kind != api.TurnFail {
				t.Errorf("P20.9: seed %d, machine %d: %v", seed, i, ask)
			}
		}
	}
}

// TestP20_10Hashes: values that are the same without an ask have one hash,
// where both have one.
func TestP20_10Hashes(t *testing.T) {
	yes := map[int]int{}
	for seed := range 300 {
		r := dice{rand.New(rand.NewSource(int64(seed)))}
		k := builtOf(t, 30, r.terms(30, false, false)...)
		for _, a := range k.v {
			for _, b := range k.v {
				if a == b || equal.Same(k.Store, a, b).Step(1<<20) != done(true) {
					continue
				}
				p, q := equal.Hash(k.Store, a).Step(1<<20), equal.Hash(k.Store, b).Step(1<<20)
				if p.Kind == api.TurnDone && q.Kind == api.TurnDone && p != q {
					t.Errorf("P20.10: seed %d: %s, %s: %v, %v", seed, k.Tag(a), k.Tag(b), p, q)
				}
				yes[k.Kind(a)]++
			}
		}
	}
	for _, kind := range []int{api.ValBool, api.ValInt, api.ValStr, api.ValTuple, api.ValList, api.ValDict, api.ValSet, api.ValFrozen, api.ValKeys, api.ValItems} {
		if yes[kind] < 10 {
			t.Errorf("P20.10: values of the kind %d were the same only %d times", kind, yes[kind])
		}
	}
}

// TestP20_10Asks: a lookup asks of the pairs of the key's hash, in order, those
// that are not alike, up to the first yes; in whatever cells they stand.
func TestP20_10Asks(t *testing.T) {
	k := builtOf(t, 100, both(1), num(1), num(0), dict())
	z, one, no, d := k.v[0], k.v[1], k.v[2], k.v[3]
	var stored []int
	for n := range 60 {
		x := k.builds(t, both(0))
		hash := []int{1, 9, 17, 33, 1}[n%5]
		k.put(d, x, hash, one)
		if n%7 == 3 {
			k.take(d, x, hash)
		} else if hash == 1 {
			stored = append(stored, x)
		}
	}
	for i := range stored {
		wanted := []any{askHash(z), one}
		for _, x := range stored[:i] {
			wanted = append(wanted, askSame(x, z), no)
		}
		wanted = append(wanted, askSame(stored[i], z), one, found(one))
		says(t, "P20.10", equal.Look(k.Store, d, api.GoalGet, z, 0), i+2, wanted...)
	}
}

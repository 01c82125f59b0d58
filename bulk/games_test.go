package bulk_test

import (
	"fmt"
	"math/rand"
	"slices"
	"testing"

	"lexicon/api"
	"lexicon/bulk"
	"lexicon/digest"
	"lexicon/store"
	"lexicon/whole"
)

const (
	gamePairs = 6
	nought    = 1 // the place of an int 0 in each list of terms
)

// dice is what comes by chance.
type dice struct{ *rand.Rand }

func (r dice) of(list ...int) int { return list[r.Intn(len(list))] }

// terms is a list of terms that Build takes. Rings: lists may have what stands
// behind them.
func (r dice) terms(count int, rings, instances bool) []api.Term {
	kinds := []int{1, 2, 3, 3, 4, 4, 4, 5, 5, 5, 6, 6, 6, 7, 7, 7, 8, 9, api.ValKeys, api.ValValues, api.ValItems, api.ValItems, api.ValItems}
	if instances {
		kinds = append(kinds, 14, 14, 14, 14, 14, 14, 14, 14)
	}
	terms := []api.Term{num(1), num(0), num(2)}
	for len(terms) < count {
		x := api.Term{Kind: r.of(kinds...), Bool: r.Intn(2) == 0, Hash: r.Intn(2) == 0, Same: r.Intn(3) > 0, Num: whole.Of(r.of(-1, 0, 1, 1, 2)), Text: []string{"", "a", "a", "aé\U0001F600", "aba", "abcdefg"}[r.Intn(6)]}
		if x.Kind != api.ValInstance {
			x.Hash, x.Same = false, false
		}
		if r.kids(&x, terms, count, rings) {
			terms = append(terms, x)
		}
	}
	return terms
}

// kids gives a term its Kids; false, if there are none such.
func (r dice) kids(x *api.Term, ahead []api.Term, count int, rings bool) bool {
	var simple, texts, dicts, instances []int
	for i, t := range ahead {
		if t.Kind == api.ValInstance {
			instances = append(instances, i)
		}
		if t.Kind <= api.ValStr || t.Kind == api.ValInstance && (t.Hash || !t.Same) {
			simple = append(simple, i)
		}
		switch t.Kind {
		case api.ValStr:
			texts = append(texts, i)
		case api.ValDict:
			dicts = append(dicts, i)
		}
	}
	if len(simple) == 0 {
		return x.Kind <= api.ValStr
	}
	any := func() int {
		if len(instances) > 0 && r.Intn(3) == 0 {
			return r.of(instances...)
		}
		return r.Intn(len(ahead))
	}
	if x.Kind == api.ValDict && len(texts) > 0 && r.Intn(3) == 0 {
		simple = texts
	}
	key := func() int {
		if at := r.of(simple...); r.Intn(2) == 0 || ahead[at].Kind == api.ValInstance {
			return at
		}
		return r.of(simple...)
	}
	if x.Kind == api.ValList && rings && r.Intn(2) == 0 {
		x.Kids = []int{r.of(simple...), len(ahead)}[r.Intn(2):] // it has itself
		return true
	}
	r.some(x, any, key, count, rings, len(ahead))
	if x.Kind == api.ValKeys || x.Kind == api.ValValues || x.Kind == api.ValItems {
		if len(dicts) == 0 {
			return false
		}
		x.Kids = []int{r.of(dicts...)}
	}
	return true
}

// some gives a term some Kids.
func (r dice) some(x *api.Term, any, key func() int, count int, rings bool, ahead int) {
	kids := r.Intn(4)
	if x.Kind == api.ValTuple || x.Kind == api.ValList {
		kids = r.of(kids, kids, kids, 2*gamePairs)
	}
	for range kids {
		switch x.Kind {
		case api.ValTuple:
			x.Kids = append(x.Kids, any())
		case api.ValList:
			if rings && r.Intn(3) == 0 {
				x.Kids = append(x.Kids, ahead+r.Intn(count-ahead))
			} else {
				x.Kids = append(x.Kids, any())
			}
		case api.ValDict:
			x.Kids = append(x.Kids, key(), any())
		case api.ValSet, api.ValFrozen:
			x.Kids = append(x.Kids, key())
		}
	}
}

// game is a world, and one thing that a machine does in it.
type game struct {
	r       dice
	terms   []api.Term
	ahead   []change // done to the world first
	model   *model
	places  map[int][]int // of the things of a kind
	focus   []int         // the places of what the machine goes through
	machine func(k kit) *bulk.Machine
	do      func() answer
	op      int
	name    string
}

func newGame(t *testing.T, seed int) *game {
	g := &game{r: dice{rand.New(rand.NewSource(int64(seed)))}, places: map[int][]int{}}
	g.terms = g.r.terms(8+g.r.Intn(22), true, true)
	g.model = &model{most: gamePairs}
	k := g.bare(t)
	g.model.take(g.terms, k.v)
	g.model.extraThings()
	for i, x := range g.model.things {
		g.places[x.kind] = append(g.places[x.kind], i)
		if x.kind == api.ValDict || x.kind == api.ValSet || x.kind == api.ValFrozen {
			x.dict.changes = k.dict(k.v[i]).Version()
		}
	}
	g.choose()
	for range g.r.Intn(8) {
		if c, ok := g.change(changePut, changePut, changePut, changeAppend); ok {
			g.model.change(c)
			g.ahead = append(g.ahead, c)
		}
	}
	g.model.oracle = g.oracle
	return g
}

// bare is a Store with the game's terms and the extras, fresh.
func (g *game) bare(t *testing.T) kit {
	k := builtOf(t, gamePairs, g.terms...)
	k.extras()
	return k
}

// any is the place of a thing; one of these kinds, where there is one.
func (g *game) any(kinds ...int) int {
	var list []int
	for _, kind := range kinds {
		list = append(list, g.places[kind]...)
	}
	if len(list) == 0 {
		return g.r.Intn(len(g.model.things))
	}
	return g.r.of(list...)
}

// look makes what has the rows or the pairs of a thing more likely to be
// changed.
func (g *game) look(of *thing) {
	for i, x := range g.model.things {
		if x == of || of.dict != nil && x.dict == of.dict {
			g.focus = append(g.focus, i)
		}
	}
}

// change is one of these.
func (g *game) change(whats ...int) (change, bool) {
	c := change{what: g.r.of(whats...), key: g.r.Intn(len(g.model.things)), value: g.r.Intn(len(g.model.things)), other: g.r.Intn(100)}
	kinds := []int{api.ValDict, api.ValDict, api.ValSet, api.ValFrozen}
	if c.what >= changeAppend {
		kinds = []int{api.ValList}
	}
	c.of = g.any(kinds...)
	if len(g.focus) > 0 && g.r.Intn(2) == 0 {
		c.of = g.r.of(g.focus...)
	}
	if g.op == bulk.Spread && g.r.Intn(2) == 0 { // else it hardly ever asks
		c.key = g.any(api.ValInstance)
	}
	c.hash = g.hash(g.model.things[c.key])
	if x := g.model.result; x != nil && c.what < changeAppend && g.r.Intn(4) == 0 {
		c.of, c.number = ofResult, x.number
		return c, true
	}
	kind := g.model.things[c.of].kind
	return c, kind == kinds[0] || c.what < changeAppend && (kind == api.ValSet || kind == api.ValFrozen)
}

// hash is that of a thing, mostly, where nobody need be asked.
func (g *game) hash(x *thing) (hash int) {
	m := &model{oracle: func(int, int) (*thing, []change) { return &thing{kind: api.ValInt, n: g.r.Intn(3)}, nil }}
	hash = g.r.Intn(3)
	if x.same && g.r.Intn(2) == 0 || g.r.Intn(20) == 0 {
		return digest.Text("a") // of which many keys are
	}
	if g.r.Intn(4) > 0 {
		m.run(func() answer { hash = m.hash(x); return answer{} })
	}
	return hash
}

// oracle is what is told, and what is done ahead of that.
func (g *game) oracle(what, asked int) (told *thing, list []change) {
	told = g.model.things[g.any(api.ValInt, api.ValBool)]
	if g.r.Intn(12) == 0 {
		told = g.model.things[g.r.Intn(len(g.model.things))]
	}
	if what == api.AskSame && g.r.Intn(2) == 0 {
		told = g.model.things[nought]
	}
	if asked > mostAsks/2 || g.r.Intn(2) > 0 {
		return told, nil
	}
	for range 1 + g.r.Intn(2) {
		if c, ok := g.change(changePut, changePut, changeTake, changeTake, changeClear, changeAppend, changeCut, changeTurn); ok {
			list = append(list, c)
		}
	}
	return told, list
}

// choose is what the machine is to do.
func (g *game) choose() {
	op := g.r.of(bulk.Update, bulk.Update, bulk.Spread, bulk.Spread, bulk.Gather, bulk.Frozen, bulk.Or, bulk.Or, bulk.And, bulk.Sub, bulk.Xor, bulk.Xor, bulk.Lt, bulk.Le, bulk.Gt, bulk.Ge, bulk.Extend)
	sides := []int{api.ValSet, api.ValFrozen, api.ValKeys, api.ValItems, api.ValItems}
	kinds, others := sides, sides
	switch {
	case op == bulk.Extend:
		kinds, others = []int{api.ValList}, []int{api.ValTuple, api.ValList}
	case op == bulk.Spread, op == bulk.Update && g.r.Intn(2) == 0, op == bulk.Or && g.r.Intn(3) == 0:
		kinds, others = []int{api.ValDict}, []int{api.ValDict}
	case op == bulk.Update:
		kinds, others = []int{api.ValSet}, append(sides, api.ValTuple, api.ValTuple, api.ValList, api.ValList, api.ValDict)
	case op == bulk.Gather || op == bulk.Frozen:
		kinds, others = nil, append(sides, api.ValTuple, api.ValTuple, api.ValList, api.ValList, api.ValDict, api.ValStr)
	}
	a, b := g.any(kinds...), g.any(others...)
	for range 5 {
		if op == bulk.Spread && !hasTexts(g.model.things[b]) { // they come seldom
			b = g.any(others...)
		}
	}
	g.look(g.model.things[a])
	g.look(g.model.things[b])
	g.op = op
	g.name = fmt.Sprint(op, " of ", a, " and ", b)
	g.machine = func(k kit) *bulk.Machine { return bulk.Start(k.Store, op, k.v[a], k.v[b]) }
	g.do = func() answer { return g.model.row(op, g.model.things[a], g.model.things[b]) }
}

// hasTexts tells whether a thing has keys, all of them strs.
func hasTexts(x *thing) bool {
	if x.dict == nil || len(x.dict.pairs) == 0 {
		return false
	}
	return !slices.ContainsFunc(x.dict.pairs, func(p pair) bool { return p.key.kind != api.ValStr })
}

// refers tells whether a reference is that of a thing; 0 is of none.
func (k kit) refers(v int, x *thing) bool {
	switch {
	case x == nil:
		return v == 0
	case x.place >= 0:
		return v == k.v[x.place]
	case x.kind == api.ValStr: // a rune
		s, ok := k.Get(v).(*store.Str)
		return ok && s.Text == x.text
	}
	return k.Kind(v) == x.kind && k.Number(v) == x.number
}

func (k kit) matches(got api.Ask, want answer) bool {
	return got.Kind == want.kind && got.What == want.what && k.refers(got.A, want.a) && k.refers(got.B, want.b) &&
		got.Hash == want.hash && got.Yes == want.yes && k.refers(got.Value, want.value) && got.Why == want.why
}

// replay plays the game with a machine, in Steps of the lengths that cut tells.
func (g *game) replay(t *testing.T, what string, cut func() int) {
	t.Helper()
	k := g.bare(t)
	for _, c := range g.ahead {
		k.change(c)
	}
	m := g.machine(k)
	turns := 0
	for i, e := range g.model.events {
		for left := e.turns; ; {
			most := cut()
			if e.answer.kind == 0 && max(most, 0) > left {
				return // the model does not know how this goes on
			}
			got := m.Step(most)
			if max(most, 0) < left || e.answer.kind == 0 {
				left -= max(most, 0)
				turns += max(most, 0)
				if got != more || m.Turns() != turns {
					t.Fatalf("%s, %s, event %d: Step(%d): %v, %d turns, want %d", g.name, what, i, most, got, m.Turns(), turns)
				}
				continue
			}
			turns += left
			if !k.matches(got, e.answer) || m.Turns() != turns {
				t.Fatalf("%s, %s, event %d: %+v, %d turns, want %+v, %d", g.name, what, i, got, m.Turns(), e.answer, turns)
			}
			break
		}
		if m.Step(cut()) != m.Step(0) || m.Turns() != turns {
			t.Fatalf("%s, %s, event %d: it is not the same again", g.name, what, i)
		}
		if e.told == nil {
			break
		}
		for _, c := range e.changes {
			k.change(c)
		}
		if got := m.Tell(-1); got != api.ErrArg {
			t.Fatalf("%s, %s, event %d: Tell of no value: %d", g.name, what, i, got)
		}
		if got := m.Tell(k.v[e.told.place]); got != api.OK {
			t.Fatalf("%s, %s, event %d: Tell: %d", g.name, what, i, got)
		}
	}
	g.check(t, what, k)
}

// check holds the world behind the game against the model's.
func (g *game) check(t *testing.T, what string, k kit) {
	t.Helper()
	if k.Live() != g.model.last {
		t.Fatalf("%s, %s: Live %d, want %d", g.name, what, k.Live(), g.model.last)
	}
	for i, x := range append(g.model.things, g.model.result) {
		if x == nil {
			continue
		}
		ok, v := true, k.numbered(x.number)
		if i < len(k.v) {
			v = k.v[i]
		}
		switch x.kind {
		case api.ValTuple, api.ValList:
			parts := k.Parts(v)
			ok = len(parts) == len(x.row)
			for n := 0; ok && n < len(parts); n++ {
				ok = k.refers(parts[n], x.row[n])
			}
		case api.ValDict, api.ValSet, api.ValFrozen:
			pairs := k.dict(v).Pairs()
			ok = k.Kind(v) == x.kind && len(pairs) == len(x.dict.pairs) && k.dict(v).Version() == x.dict.changes
			for n := 0; ok && n < len(pairs); n++ {
				p := x.dict.pairs[n]
				ok = k.refers(pairs[n].Key, p.key) && pairs[n].Hash == p.hash && k.refers(pairs[n].Value, p.value)
			}
		}
		if !ok {
			t.Fatalf("%s, %s: thing %d of the kind %d is another one", g.name, what, i, x.kind)
		}
	}
}

// TestP21_5Games plays games with rows, cut in many ways, and holds what they
// ask, what comes and what is behind that against the model.
func TestP21_5Games(t *testing.T) {
	counts := map[string]int{}
	for seed := range 20000 {
		g := newGame(t, seed)
		if g.machine(g.bare(t)) == nil {
			continue
		}
		made := g.model.last
		g.model.run(g.do)
		r := dice{rand.New(rand.NewSource(int64(seed)))}
		what := fmt.Sprint("seed ", seed)
		g.replay(t, what+", at once", func() int { return mostTurns })
		g.replay(t, what+", one by one", func() int { return 1 })
		g.replay(t, what+", by chance", func() int { return r.of(-5, 0, 1, 1, 2, 3, 7, 30) })
		g.count(counts, made)
	}
	for name, least := range map[string]int{
		"Done": 5000, "Fail": 500, "Full": 100, "yes": 200, "asked": 2000, "asked twice": 500, "anew": 100, "gathered": 500, "the result changed": 100,
		"101 Done": 300, "102 Done": 200, "103 Done": 20, "104 Done": 200, "105 Done": 200, "111 Done": 300, "112 Done": 200, "113 Done": 200, "114 Done": 200, "115 Done": 200, "116 Done": 200, "117 Done": 200, "118 Done": 200,
		"101 asked": 100, "103 asked": 10, "104 asked": 50, "105 asked": 50, "111 asked": 50, "112 asked": 50, "113 asked": 50, "114 asked": 50, "115 asked": 20, "116 asked": 20, "117 asked": 20, "118 asked": 20,
		"101 Full": 10, "104 Full": 10, "105 Full": 10, "111 Full": 10, "114 Full": 10,
	} {
		if counts[name] < least {
			t.Errorf("the games had %q only %d times", name, counts[name])
		}
	}
}

// count notes what a game had.
func (g *game) count(counts map[string]int, made int) {
	last := g.model.events[len(g.model.events)-1].answer
	end := map[int]string{api.TurnDone: "Done", api.TurnFail: "Fail", api.TurnFull: "Full"}[last.kind]
	if end == "" {
		end = "left"
	}
	changed := false
	for _, e := range g.model.events {
		for _, c := range e.changes {
			changed = changed || c.of == ofResult
		}
	}
	for name, so := range map[string]bool{end: true, "yes": last.yes, "asked": g.model.asked > 0, "asked twice": g.model.asked > 1, "anew": g.model.anew > 0, "gathered": g.model.last > made+1, "the result changed": changed} {
		if so {
			counts[name]++
			counts[fmt.Sprint(g.op, " ", name)]++
		}
	}
}

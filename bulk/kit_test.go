package bulk_test

import (
	"fmt"
	"testing"

	"lexicon/api"
	"lexicon/bulk"
	"lexicon/digest"
	"lexicon/probe"
	"lexicon/store"
	"lexicon/whole"
)

// kit is a Store, and the values of the terms that were built in it.
type kit struct {
	*store.Store
	v []int
}

// built is a kit of terms; its dicts may have 20 pairs.
func built(t *testing.T, terms ...api.Term) kit {
	t.Helper()
	return builtOf(t, 20, terms...)
}

func builtOf(t *testing.T, pairs int, terms ...api.Term) kit {
	t.Helper()
	s, e := store.New(api.Rules{Pairs: pairs, Shared: 3}, nil)
	if e != api.OK {
		t.Fatalf("New: %d", e)
	}
	v, e := s.Build(terms)
	if e != api.OK {
		t.Fatalf("Build: %d", e)
	}
	return kit{s, v}
}

func term(kind int, kids ...int) api.Term { return api.Term{Kind: kind, Kids: kids} }

func none() api.Term { return term(api.ValNone) }

func boolean(yes bool) api.Term { return api.Term{Kind: api.ValBool, Bool: yes} }

func num(n int) api.Term { return api.Term{Kind: api.ValInt, Num: whole.Of(n)} }

func str(text string) api.Term { return api.Term{Kind: api.ValStr, Text: text} }

func tuple(kids ...int) api.Term { return term(api.ValTuple, kids...) }

func list(kids ...int) api.Term { return term(api.ValList, kids...) }

func dict(kids ...int) api.Term { return term(api.ValDict, kids...) }

func set(kids ...int) api.Term { return term(api.ValSet, kids...) }

func frozen(kids ...int) api.Term { return term(api.ValFrozen, kids...) }

func items(of int) api.Term { return term(api.ValItems, of) }

func keys(of int) api.Term { return term(api.ValKeys, of) }

func values(of int) api.Term { return term(api.ValValues, of) }

// plain is an instance whose class says nothing.
func plain() api.Term { return api.Term{Kind: api.ValInstance} }

// hasher is one whose class says __hash__, with that hash as a key.
func hasher(n int) api.Term {
	return api.Term{Kind: api.ValInstance, Hash: true, Num: whole.Of(n)}
}

// samer is one whose class says __eq__ alone.
func samer() api.Term { return api.Term{Kind: api.ValInstance, Same: true} }

// both is one whose class says both.
func both(n int) api.Term {
	return api.Term{Kind: api.ValInstance, Hash: true, Same: true, Num: whole.Of(n)}
}

// named is an instance of a class that has the first one's names, of a base
// that has the second one's, and so on.
func (k kit) named(names ...[]string) int {
	class := store.Nothing
	for i := len(names) - 1; i >= 0; i-- {
		class = k.NewClass("K", class)
		for _, name := range names[i] {
			k.name(class, name)
		}
	}
	return k.NewInstance(class)
}

func (k kit) name(class int, name string) {
	d := k.Get(class).(*store.Class).Dict
	m := d.Begin(api.GoalPut, digest.Text(name), k.NewStr(name), k.NewNone())
	for m.Step().Kind == api.TurnAsk {
		m.Tell(false)
	}
}

// put lays a pair into a dict or a set, with any hash, behind all others;
// nobody is asked.
func (k kit) put(d, key, hash, value int) {
	m := k.dict(d).Begin(api.GoalPut, hash, key, value)
	for m.Step().Kind == api.TurnAsk {
		m.Tell(false)
	}
}

// take takes a key out.
func (k kit) take(d, key, hash int) {
	m := k.dict(d).Begin(api.GoalDelete, hash, key, 0)
	for m.Step().Kind == api.TurnAsk {
		m.Tell(false)
	}
}

// dict is the Dict of a dict or a set.
func (k kit) dict(v int) *probe.Dict {
	if x, ok := k.Get(v).(*store.Set); ok {
		return x.Dict
	}
	return k.Get(v).(*store.Dict).Dict
}

func (k kit) list(v int) *store.List { return k.Get(v).(*store.List) }

// is holds things against each other as texts.
func is(t *testing.T, what string, got, want any) {
	t.Helper()
	if a, b := fmt.Sprint(got), fmt.Sprint(want); a != b {
		t.Errorf("%s: got %.300s, want %.300s", what, a, b)
	}
}

// The asks.

func done(yes bool) api.Ask { return api.Ask{Kind: api.TurnDone, Yes: yes} }

func ended(value int) api.Ask { return api.Ask{Kind: api.TurnDone, Value: value} }

func askHash(a int) api.Ask { return api.Ask{Kind: api.TurnAsk, What: api.AskHash, A: a} }

func askSame(a, b int) api.Ask { return api.Ask{Kind: api.TurnAsk, What: api.AskSame, A: a, B: b} }

var (
	failed   = api.Ask{Kind: api.TurnFail, Why: api.WhyType}
	overflow = api.Ask{Kind: api.TurnFail, Why: api.WhyOverflow}
	full     = api.Ask{Kind: api.TurnFull}
	more     = api.Ask{Kind: api.TurnMore}
)

const many = 1 << 30

// says holds what a Machine asks, one ask behind the other, and how it ends,
// against what is wanted; each ask is told what stands behind it.
func says(t *testing.T, what string, m *bulk.Machine, turns int, wanted ...any) {
	t.Helper()
	for i := 0; i < len(wanted); i += 2 {
		if got := m.Step(many); got != wanted[i] {
			t.Errorf("%s: ask %d: got %v, want %v", what, i/2, got, wanted[i])
			return
		}
		if i+1 < len(wanted) {
			if e := m.Tell(wanted[i+1].(int)); e != api.OK {
				t.Errorf("%s: Tell %d: %d", what, i/2, e)
			}
		}
	}
	if m.Turns() != turns {
		t.Errorf("%s: %d turns, want %d", what, m.Turns(), turns)
	}
}

// through is a walk through nothing.
type through struct{}

func (through) Through() int { return store.Nothing }

// builds is one more value.
func (k kit) builds(t *testing.T, x api.Term) int {
	t.Helper()
	v, e := k.Build([]api.Term{x})
	if e != api.OK {
		t.Fatalf("Build: %d", e)
	}
	return v[0]
}

// parts is a value's kind, and the tags of its parts.
func (k kit) parts(v int) string {
	text := fmt.Sprint(k.Kind(v), ":")
	for _, part := range k.Parts(v) {
		text += " " + k.Tag(part)
	}
	return text
}

// numbered is the value of a number; -1, if there is none.
func (k kit) numbered(number int) int {
	for v := range 10000 {
		if k.Number(v) == number {
			return v
		}
	}
	return -1
}

// start is a row that there is.
func (k kit) start(t *testing.T, op, a, b int) *bulk.Machine {
	t.Helper()
	m := bulk.Start(k.Store, op, a, b)
	if m == nil {
		t.Fatalf("Start(%d) is nil", op)
	}
	return m
}

// comes is what comes of a row that asks nothing: of most rows the parts of
// what is changed, or made; and the turns.
func (k kit) comes(t *testing.T, op, a, b int) (string, int) {
	t.Helper()
	m := k.start(t, op, a, b)
	ask := m.Step(many)
	switch {
	case ask == failed:
		return "fail", m.Turns()
	case ask == overflow:
		return "overflow", m.Turns()
	case ask == full:
		return "full", m.Turns()
	case op >= bulk.Lt && ask == done(true):
		return "yes", m.Turns()
	case op >= bulk.Lt && ask == done(false):
		return "no", m.Turns()
	case op <= bulk.Spread && ask == ended(0):
		return k.parts(a), m.Turns()
	case op >= bulk.Gather && op < bulk.Lt && ask == ended(ask.Value):
		return k.parts(ask.Value), m.Turns()
	}
	return fmt.Sprint(ask), m.Turns()
}

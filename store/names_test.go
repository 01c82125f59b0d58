package store_test

import (
	"testing"

	"lexicon/api"
	"lexicon/digest"
	"lexicon/probe"
	"lexicon/store"
)

// lay puts a key into a Dict behind all others, with any hash.
func lay(d *probe.Dict, key, hash, value int) {
	m := d.Begin(api.GoalPut, hash, key, value)
	for m.Step().Kind == api.TurnAsk {
		m.Tell(false)
	}
}

// TestNamed: a name is found by what it says, among others of its hash too.
func TestNamed(t *testing.T) {
	s, v := built(t, intTerm(7), intTerm(8), strTerm("a"), strTerm("b"), strTerm("a"), noneTerm())
	d := s.Get(s.NewClass("A", store.Nothing)).(*store.Class).Dict
	named := func(name string) []any {
		value, ok := s.Named(d, name)
		return []any{value, ok}
	}
	is(t, "of no name", named("a"), []any{0, false})
	lay(d, v[3], digest.Text("a"), v[1]) // as if b had its hash
	lay(d, v[5], digest.Text("a"), v[1]) // what is no str is no name
	is(t, "others of its hash", named("a"), []any{0, false})
	lay(d, v[2], digest.Text("a"), v[0])
	is(t, "behind others of its hash", named("a"), []any{v[0], true})
	is(t, "another name", named("b"), []any{0, false})
	is(t, "the empty name", named(""), []any{0, false})
	version := d.Version()
	named("a")
	is(t, "nothing is changed", []int{d.Version(), d.Len()}, []int{version, 3})
	var none *store.Store
	value, ok := none.Named(nil, "a")
	is(t, "of a nil Store, of a nil Dict", []any{value, ok}, []any{0, false})
}

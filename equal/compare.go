package equal

import (
	"lexicon/api"
	"lexicon/probe"
	"lexicon/store"
)

// comparing tells whether two values are the same.
type comparing struct {
	turning
	store *store.Store
	a, b  int
}

func compare(s *store.Store, a, b int) task {
	c := &comparing{store: s, a: a, b: b}
	c.way = c.begin
	return c
}

// begin needs no turn, where the values are alike.
func (c *comparing) begin(api.Ask) move {
	if c.store.Alike(c.a, c.b) {
		return yes(true)
	}
	c.turn = true
	return move{then: c.unlike}
}

// unlike compares two values that are not alike.
func (c *comparing) unlike(api.Ask) move {
	c.turn = false
	a, b := c.store.Kind(c.a), c.store.Kind(c.b)
	switch {
	case saysSame(c.store, c.a):
		return c.ask(c.a, c.b)
	case saysSame(c.store, c.b):
		return c.ask(c.b, c.a)
	case isRow(a) && a == b:
		return c.rows()
	case a == api.ValDict && b == api.ValDict:
		return c.dicts()
	case isSide(a) && isSide(b):
		return c.sides()
	}
	return yes(false)
}

// ask asks an instance.
func (c *comparing) ask(instance, other int) move {
	ask := api.Ask{Kind: api.TurnAsk, What: api.AskSame, A: instance, B: other}
	return move{ask: ask, then: func(came api.Ask) move { return yes(c.store.Truth(came.Value)) }}
}

func (c *comparing) rows() move {
	if len(rowOf(c.store, c.a)) != len(rowOf(c.store, c.b)) {
		return yes(false)
	}
	return c.row(0)
}

// row compares the values of two rows from a place on. Who is asked may change
// lists: so they are looked at as they are now.
func (c *comparing) row(i int) move {
	a, b := rowOf(c.store, c.a), rowOf(c.store, c.b)
	if i >= len(a) || i >= len(b) {
		return yes(len(a) == len(b))
	}
	return after(compare(c.store, a[i], b[i]), func(came api.Ask) move {
		if !came.Yes {
			return as(came)
		}
		return c.row(i + 1)
	})
}

func (c *comparing) dicts() move {
	a, b := dictOf(c.store, c.a), dictOf(c.store, c.b)
	if a.Len() != b.Len() {
		return yes(false)
	}
	return c.pairs(a.Pairs(), b)
}

// pairs tells whether the pairs that are left are all in a Dict.
func (c *comparing) pairs(left []api.Entry, b *probe.Dict) move {
	if len(left) == 0 {
		return yes(true)
	}
	pair := left[0]
	return after(find(c.store, b, pair.Key, pair.Hash), func(came api.Ask) move {
		if !came.Yes {
			return yes(false)
		}
		return after(compare(c.store, pair.Value, came.Value), func(came api.Ask) move {
			if !came.Yes {
				return as(came)
			}
			return c.pairs(left[1:], b)
		})
	})
}

// sides compares two sides, of which items views are gathered first.
func (c *comparing) sides() move {
	return c.side(c.a, func(a *probe.Dict) move {
		return c.side(c.b, func(b *probe.Dict) move {
			if a.Len() != b.Len() {
				return yes(false)
			}
			return c.keys(a.Pairs(), b)
		})
	})
}

// side goes on with the Dict of a side.
func (c *comparing) side(v int, then func(d *probe.Dict) move) move {
	d := dictOf(c.store, v)
	if c.store.Kind(v) != api.ValItems {
		return then(d)
	}
	return after(gather(c.store, d), func(came api.Ask) move {
		return then(dictOf(c.store, came.Value))
	})
}

// keys tells whether the keys that are left are all in a Dict.
func (c *comparing) keys(left []api.Entry, b *probe.Dict) move {
	if len(left) == 0 {
		return yes(true)
	}
	return after(find(c.store, b, left[0].Key, left[0].Hash), func(came api.Ask) move {
		if !came.Yes {
			return yes(false)
		}
		return c.keys(left[1:], b)
	})
}

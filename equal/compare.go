package equal

import (
	"lexicon/api"
	"lexicon/probe"
	"lexicon/store"
)

// comparing tells whether two values are the same.
type comparing struct {
	Turning
	store *store.Store
	a, b  int
}

func toCompare(s *store.Store, a, b int) Task {
	c := &comparing{store: s, a: a, b: b}
	c.Way = c.begin
	return c
}

// begin needs no turn, where the values are alike.
func (c *comparing) begin(api.Ask) Move {
	if c.store.Alike(c.a, c.b) {
		return Yes(true)
	}
	c.Turn = true
	return Move{Then: c.unlike}
}

// unlike compares two values that are not alike.
func (c *comparing) unlike(api.Ask) Move {
	c.Turn = false
	a, b := c.store.Kind(c.a), c.store.Kind(c.b)
	switch {
	case saysSame(c.store, c.a):
		return c.ask(c.a, c.b)
	case saysSame(c.store, c.b):
		return c.ask(c.b, c.a)
	case IsRow(a) && a == b:
		return c.rows()
	case a == api.ValDict && b == api.ValDict:
		return c.dicts()
	case IsSide(a) && IsSide(b):
		return c.sides()
	}
	return Yes(false)
}

// ask asks an instance.
func (c *comparing) ask(instance, other int) Move {
	ask := api.Ask{Kind: api.TurnAsk, What: api.AskSame, A: instance, B: other}
	return Move{Ask: ask, Then: func(came api.Ask) Move { return Yes(c.store.Truth(came.Value)) }}
}

func (c *comparing) rows() Move {
	if len(RowOf(c.store, c.a)) != len(RowOf(c.store, c.b)) {
		return Yes(false)
	}
	return c.row(0)
}

// row compares the values of two rows from a place on. Who is asked may change
// lists: so they are looked at as they are now.
func (c *comparing) row(i int) Move {
	a, b := RowOf(c.store, c.a), RowOf(c.store, c.b)
	if i >= len(a) || i >= len(b) {
		return Yes(len(a) == len(b))
	}
	return After(toCompare(c.store, a[i], b[i]), func(came api.Ask) Move {
		if !came.Yes {
			return as(came)
		}
		return c.row(i + 1)
	})
}

func (c *comparing) dicts() Move {
	a, b := DictOf(c.store, c.a), DictOf(c.store, c.b)
	if a.Len() != b.Len() {
		return Yes(false)
	}
	return c.pairs(a.Pairs(), b)
}

// pairs tells whether the pairs that are left are all in a Dict.
func (c *comparing) pairs(left []api.Entry, b *probe.Dict) Move {
	if len(left) == 0 {
		return Yes(true)
	}
	pair := left[0]
	return After(ToFind(c.store, b, pair.Key, pair.Hash), func(came api.Ask) Move {
		if !came.Yes {
			return Yes(false)
		}
		return After(toCompare(c.store, pair.Value, came.Value), func(came api.Ask) Move {
			if !came.Yes {
				return as(came)
			}
			return c.pairs(left[1:], b)
		})
	})
}

// sides compares two sides, of which items views are gathered first.
func (c *comparing) sides() Move {
	return Gathered(c.store, c.a, func(a *probe.Dict) Move {
		return Gathered(c.store, c.b, func(b *probe.Dict) Move {
			if a.Len() != b.Len() {
				return Yes(false)
			}
			return c.keys(a.Pairs(), b)
		})
	})
}

// keys tells whether the keys that are left are all in a Dict.
func (c *comparing) keys(left []api.Entry, b *probe.Dict) Move {
	if len(left) == 0 {
		return Yes(true)
	}
	return After(ToFind(c.store, b, left[0].Key, left[0].Hash), func(came api.Ask) Move {
		if !came.Yes {
			return Yes(false)
		}
		return c.keys(left[1:], b)
	})
}

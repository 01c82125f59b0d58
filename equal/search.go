package equal

import (
	"lexicon/api"
	"lexicon/store"
)

// searching tells whether a value is in another one.
type searching struct {
	Ways
	store     *store.Store
	in, value int
}

func toSearch(s *store.Store, in, v int) Task {
	x := &searching{store: s, in: in, value: v}
	x.Way = x.begin
	return x
}

func (x *searching) begin(api.Ask) Move {
	switch x.store.Kind(x.in) {
	case api.ValTuple, api.ValList:
		return x.row(0)
	case api.ValValues:
		return x.values(DictOf(x.store, x.in).Pairs())
	case api.ValItems:
		return x.item()
	}
	return After(x.look(x.value), func(came api.Ask) Move { return Yes(came.Yes) })
}

// look finds a key in the Dict.
func (x *searching) look(key int) Task {
	return toLook(x.store, DictOf(x.store, x.in), api.GoalGet, key, 0)
}

// row looks for the value in a row, which may be changed, from a place on.
func (x *searching) row(i int) Move {
	now := RowOf(x.store, x.in)
	if i >= len(now) {
		return Yes(false)
	}
	return After(toCompare(x.store, now[i], x.value), func(came api.Ask) Move {
		if came.Yes {
			return as(came)
		}
		return x.row(i + 1)
	})
}

// values looks for the value among those of the pairs that are left.
func (x *searching) values(left []api.Entry) Move {
	if len(left) == 0 {
		return Yes(false)
	}
	return After(toCompare(x.store, left[0].Value, x.value), func(came api.Ask) Move {
		if came.Yes {
			return as(came)
		}
		return x.values(left[1:])
	})
}

// item tells whether the value is a pair as a tuple.
func (x *searching) item() Move {
	pair := RowOf(x.store, x.value)
	if x.store.Kind(x.value) != api.ValTuple || len(pair) != 2 {
		return Yes(false)
	}
	return After(x.look(pair[0]), func(came api.Ask) Move {
		if !came.Yes {
			return Yes(false)
		}
		return After(toCompare(x.store, came.Value, pair[1]), as)
	})
}

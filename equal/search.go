package equal

import (
	"lexicon/api"
	"lexicon/store"
)

// searching tells whether a value is in another one.
type searching struct {
	ways
	store     *store.Store
	in, value int
}

func search(s *store.Store, in, v int) task {
	x := &searching{store: s, in: in, value: v}
	x.way = x.begin
	return x
}

func (x *searching) begin(api.Ask) move {
	switch x.store.Kind(x.in) {
	case api.ValTuple, api.ValList:
		return x.row(0)
	case api.ValValues:
		return x.values(dictOf(x.store, x.in).Pairs())
	case api.ValItems:
		return x.item()
	}
	return after(x.look(x.value), func(came api.Ask) move { return yes(came.Yes) })
}

// look finds a key in the Dict.
func (x *searching) look(key int) task {
	return look(x.store, dictOf(x.store, x.in), api.GoalGet, key, 0)
}

// row looks for the value in a row, which may be changed, from a place on.
func (x *searching) row(i int) move {
	now := rowOf(x.store, x.in)
	if i >= len(now) {
		return yes(false)
	}
	return after(compare(x.store, now[i], x.value), func(came api.Ask) move {
		if came.Yes {
			return as(came)
		}
		return x.row(i + 1)
	})
}

// values looks for the value among those of the pairs that are left.
func (x *searching) values(left []api.Entry) move {
	if len(left) == 0 {
		return yes(false)
	}
	return after(compare(x.store, left[0].Value, x.value), func(came api.Ask) move {
		if came.Yes {
			return as(came)
		}
		return x.values(left[1:])
	})
}

// item tells whether the value is a pair as a tuple.
func (x *searching) item() move {
	pair := rowOf(x.store, x.value)
	if x.store.Kind(x.value) != api.ValTuple || len(pair) != 2 {
		return yes(false)
	}
	return after(x.look(pair[0]), func(came api.Ask) move {
		if !came.Yes {
			return yes(false)
		}
		return after(compare(x.store, came.Value, pair[1]), as)
	})
}

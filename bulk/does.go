package bulk

import (
	"lexicon/api"
	"lexicon/equal"
	"lexicon/probe"
	"lexicon/store"
)

// first is what is done with each element of a; nil: nothing.
func (r *row) first() does {
	switch r.op {
	case Or:
		return r.copy
	case And:
		return r.copyIf(true)
	case Sub, Xor:
		return r.copyIf(false)
	case Lt, Le:
		return r.need
	}
	return nil
}

// second is what is done with each element of b; nil: nothing.
func (r *row) second() does {
	switch r.op {
	case Or:
		return r.put
	case Xor:
		return r.putNew(r.goOn)
	case Spread:
		return r.putNew(func(api.Ask) equal.Move { return equal.Fail(api.WhyType) })
	case Extend:
		return r.lay
	case Update, Gather, Frozen:
		return r.putAny()
	}
	return nil
}

// putAny is put, by what is to be done ahead of that.
func (r *row) putAny() does {
	switch kind := r.store.Kind(r.b); {
	case kind == api.ValStr:
		return r.putRune
	case equal.IsRow(kind):
		return r.putValue
	}
	return r.put
}

// copy adds an element to what comes; it is none of those that are there.
func (r *row) copy(x api.Entry) equal.Move {
	if _, ok := r.into.Add(x.Hash, x.Key, x.Value); !ok {
		return equal.Full()
	}
	return r.next()
}

// copyIf copies an element, if that it is in b is as is wanted.
func (r *row) copyIf(wanted bool) does {
	return func(x api.Entry) equal.Move {
		return r.find(r.ofB, x, func(came api.Ask) equal.Move {
			if came.Yes != wanted {
				return r.next()
			}
			return r.copy(x)
		})
	}
}

// need ends the row, if an element is not in b.
func (r *row) need(x api.Entry) equal.Move {
	return r.find(r.ofB, x, func(came api.Ask) equal.Move {
		if !came.Yes {
			return equal.Yes(false)
		}
		return r.next()
	})
}

// putNew puts an element in that is not in a; with another one it goes on as
// is handed in.
func (r *row) putNew(there equal.Way) does {
	return func(x api.Entry) equal.Move {
		return r.find(r.ofA, x, func(came api.Ask) equal.Move {
			if came.Yes {
				return there(came)
			}
			return r.put(x)
		})
	}
}

// lay lays a value behind those of a list.
func (r *row) lay(x api.Entry) equal.Move {
	if list, ok := r.store.Get(r.a).(*store.List); ok {
		list.Values = append(list.Values, x.Key)
	}
	return r.next()
}

// put puts an element in.
func (r *row) put(x api.Entry) equal.Move {
	return equal.After(equal.ToPut(r.store, r.into, x.Key, x.Hash, x.Value), r.goOn)
}

// putValue puts a value in, of which the hash is to be taken.
func (r *row) putValue(x api.Entry) equal.Move {
	return equal.After(equal.ToHash(r.store, x.Key), func(came api.Ask) equal.Move {
		x.Hash = came.Hash
		return r.put(x)
	})
}

// putRune puts a rune in, of which a str is to be made.
func (r *row) putRune(x api.Entry) equal.Move {
	x.Key = r.store.NewStr(string(rune(x.Key)))
	return r.putValue(x)
}

// find looks for an element.
func (r *row) find(d *probe.Dict, x api.Entry, then equal.Way) equal.Move {
	return equal.After(equal.ToFind(r.store, d, x.Key, x.Hash), then)
}

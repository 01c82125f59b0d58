package equal

import (
	"lexicon/api"
	"lexicon/probe"
	"lexicon/store"
)

// seeking does a goal in a Dict with a key whose hash is known.
type seeking struct {
	Ways
	store   *store.Store
	machine *probe.Machine
	key     int
}

func toSeek(s *store.Store, d *probe.Dict, goal, key, hash, value int) Task {
	k := &seeking{store: s, machine: d.Begin(goal, hash, key, value), key: key}
	k.Way = k.goOn
	return k
}

// ToFind looks for a key.
func ToFind(s *store.Store, d *probe.Dict, key, hash int) Task {
	return toSeek(s, d, api.GoalGet, key, hash, 0)
}

// ToPut puts a key in.
func ToPut(s *store.Store, d *probe.Dict, key, hash, value int) Task {
	return toSeek(s, d, api.GoalPut, key, hash, value)
}

// goOn goes on to where the Dict's machine asks, or ends.
func (k *seeking) goOn(api.Ask) Move {
	turn := k.machine.Step()
	switch turn.Kind {
	case api.TurnAsk:
		return After(toCompare(k.store, turn.Key, k.key), k.told)
	case api.TurnFull:
		return Full()
	}
	return Move{Ask: api.Ask{Kind: api.TurnDone, Yes: turn.Found, Value: turn.Value}}
}

func (k *seeking) told(came api.Ask) Move {
	k.machine.Tell(came.Yes)
	return k.goOn(came)
}

// looking does a goal in a Dict with a key, of which it takes the hash first.
type looking struct {
	Ways
	store            *store.Store
	dict             *probe.Dict
	goal, key, value int
}

func toLook(s *store.Store, d *probe.Dict, goal, key, value int) Task {
	l := &looking{store: s, dict: d, goal: goal, key: key, value: value}
	l.Way = l.begin
	return l
}

func (l *looking) begin(api.Ask) Move { return After(ToHash(l.store, l.key), l.hashed) }

func (l *looking) hashed(came api.Ask) Move {
	return After(toSeek(l.store, l.dict, l.goal, l.key, came.Hash, l.value), as)
}

// Gathered goes on with the Dict of a side; an items view is gathered first.
func Gathered(s *store.Store, side int, then func(d *probe.Dict) Move) Move {
	d := DictOf(s, side)
	if s.Kind(side) != api.ValItems {
		return then(d)
	}
	return After(toGather(s, d), func(came api.Ask) Move { return then(DictOf(s, came.Value)) })
}

// gathering makes a frozen set of a dict's pairs, each as a tuple.
type gathering struct {
	Ways
	store *store.Store
	from  *probe.Dict
	set   int
}

func toGather(s *store.Store, from *probe.Dict) Task {
	g := &gathering{store: s, from: from}
	g.Way = g.begin
	return g
}

func (g *gathering) begin(api.Ask) Move {
	g.set = g.store.NewSet(true)
	return g.pairs(g.from.Pairs())
}

// pairs puts in the pairs that are left.
func (g *gathering) pairs(left []api.Entry) Move {
	if len(left) == 0 {
		return Done(g.set)
	}
	tuple := g.store.NewTuple([]int{left[0].Key, left[0].Value})
	return After(ToHash(g.store, tuple), func(came api.Ask) Move {
		put := ToPut(g.store, DictOf(g.store, g.set), tuple, came.Hash, 0)
		return After(put, func(api.Ask) Move { return g.pairs(left[1:]) })
	})
}

package equal

import (
	"lexicon/api"
	"lexicon/probe"
	"lexicon/store"
)

// seeking does a goal in a Dict with a key whose hash is known.
type seeking struct {
	ways
	store   *store.Store
	machine *probe.Machine
	key     int
}

func seek(s *store.Store, d *probe.Dict, goal, key, hash, value int) task {
	k := &seeking{store: s, machine: d.Begin(goal, hash, key, value), key: key}
	k.way = k.goOn
	return k
}

// find looks for a key.
func find(s *store.Store, d *probe.Dict, key, hash int) task {
	return seek(s, d, api.GoalGet, key, hash, 0)
}

// goOn goes on to where the Dict's machine asks, or ends.
func (k *seeking) goOn(api.Ask) move {
	turn := k.machine.Step()
	switch turn.Kind {
	case api.TurnAsk:
		return after(compare(k.store, turn.Key, k.key), k.told)
	case api.TurnFull:
		return move{ask: api.Ask{Kind: api.TurnFull}}
	}
	return move{ask: api.Ask{Kind: api.TurnDone, Yes: turn.Found, Value: turn.Value}}
}

func (k *seeking) told(came api.Ask) move {
	k.machine.Tell(came.Yes)
	return k.goOn(came)
}

// looking does a goal in a Dict with a key, of which it takes the hash first.
type looking struct {
	ways
	store            *store.Store
	dict             *probe.Dict
	goal, key, value int
}

func look(s *store.Store, d *probe.Dict, goal, key, value int) task {
	l := &looking{store: s, dict: d, goal: goal, key: key, value: value}
	l.way = l.begin
	return l
}

func (l *looking) begin(api.Ask) move { return after(hash(l.store, l.key), l.hashed) }

func (l *looking) hashed(came api.Ask) move {
	return after(seek(l.store, l.dict, l.goal, l.key, came.Hash, l.value), as)
}

// gathering makes a frozen set of a dict's pairs, each as a tuple.
type gathering struct {
	ways
	store *store.Store
	from  *probe.Dict
	set   int
}

func gather(s *store.Store, from *probe.Dict) task {
	g := &gathering{store: s, from: from}
	g.way = g.begin
	return g
}

func (g *gathering) begin(api.Ask) move {
	g.set = g.store.NewSet(true)
	return g.pairs(g.from.Pairs())
}

// pairs puts in the pairs that are left.
func (g *gathering) pairs(left []api.Entry) move {
	if len(left) == 0 {
		return move{ask: api.Ask{Kind: api.TurnDone, Value: g.set}}
	}
	tuple := g.store.NewTuple([]int{left[0].Key, left[0].Value})
	return after(hash(g.store, tuple), func(came api.Ask) move {
		put := seek(g.store, dictOf(g.store, g.set), api.GoalPut, tuple, came.Hash, 0)
		return after(put, func(api.Ask) move { return g.pairs(left[1:]) })
	})
}

package equal

import (
	"lexicon/api"
	"lexicon/digest"
	"lexicon/store"
)

// hashing takes a value's hash.
type hashing struct {
	Turning
	store *store.Store
	value int
	parts []int // the hashes of a tuple's values, as far as they were taken
}

// ToHash takes a hash.
func ToHash(s *store.Store, v int) Task {
	h := &hashing{store: s, value: v}
	h.Way = h.begin
	h.Turn = true
	return h
}

func (h *hashing) begin(api.Ask) Move {
	h.Turn = false
	switch x := h.store.Get(h.value).(type) {
	case *store.Tuple:
		return h.tuple(x.Values)
	case *store.Set:
		if x.Frozen {
			return hashed(frozen(x))
		}
	case *store.Instance:
		return h.instance()
	case *store.None, *store.Bool, *store.Int, *store.Str, *store.Native, *store.Func, *store.Bound, *store.Class:
		return hashed(h.store.Hash(h.value))
	}
	return Fail(api.WhyType)
}

// tuple takes the hashes of the values that are left of a tuple.
func (h *hashing) tuple(left []int) Move {
	if len(left) == 0 {
		return hashed(digest.Tuple(h.parts))
	}
	return After(ToHash(h.store, left[0]), func(came api.Ask) Move {
		h.parts = append(h.parts, came.Hash)
		return h.tuple(left[1:])
	})
}

// instance asks, if the class says how its instances are hashed. Where it says
// alone when they are the same, numbers could not be their hashes.
func (h *hashing) instance() Move {
	switch {
	case saysHash(h.store, h.value):
		return Move{Ask: api.Ask{Kind: api.TurnAsk, What: api.AskHash, A: h.value}, Then: h.told}
	case saysSame(h.store, h.value):
		return Fail(api.WhyType)
	}
	return hashed(h.store.Hash(h.value))
}

// told ends with the hash of what was told.
func (h *hashing) told(came api.Ask) Move {
	switch h.store.Kind(came.Value) {
	case api.ValInt, api.ValBool:
		return hashed(h.store.Hash(came.Value))
	}
	return Fail(api.WhyType)
}

// hashed is an end that tells a hash.
func hashed(n int) Move { return Move{Ask: api.Ask{Kind: api.TurnDone, Hash: n}} }

// frozen is a frozen set's hash: its pairs keep those of its elements.
func frozen(x *store.Set) int {
	var parts []int
	for _, pair := range x.Pairs() {
		parts = append(parts, pair.Hash)
	}
	return digest.Frozen(parts)
}

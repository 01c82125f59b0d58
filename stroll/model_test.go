package stroll_test

import (
	"math/rand"
	"slices"
	"testing"

	"lexicon/api"
	"lexicon/meter"
	"lexicon/probe"
	"lexicon/stroll"
)

// sequence is a Dict as the document's sequence of pairs.
type sequence struct {
	pairs  []api.Entry
	births int
}

func (q *sequence) put(key, value int) {
	if i := q.place(key); i >= 0 {
		q.pairs[i].Value = value
		return
	}
	q.pairs = append(q.pairs, api.Entry{Live: true, Hash: hashOf(key), Key: key, Value: value, Birth: q.births})
	q.births++
}

func (q *sequence) take(i int) {
	if i >= 0 && i < len(q.pairs) {
		q.pairs = slices.Delete(q.pairs, i, i+1)
	}
}

func (q *sequence) place(key int) int {
	return slices.IndexFunc(q.pairs, func(e api.Entry) bool { return e.Key == key })
}

// walk is a Stroll, word by word as the chapter says it.
type walk struct {
	of            *sequence
	back          bool
	kept          int
	ended, broken bool
	told          *int // the Birth of the one that it told last
}

func (w *walk) next() (api.Entry, api.Errno) {
	if w.ended {
		return api.Entry{}, api.ErrEnd
	}
	if w.broken || len(w.of.pairs) != w.kept {
		w.broken = true
		return api.Entry{}, api.ErrSize
	}
	var best *api.Entry
	for _, e := range w.of.pairs {
		beyond := w.told == nil || !w.back && e.Birth > *w.told || w.back && e.Birth < *w.told
		if beyond && (best == nil || (e.Birth < best.Birth) != w.back) {
			best = &e
		}
	}
	if best == nil {
		w.ended = true
		return api.Entry{}, api.ErrEnd
	}
	w.told = &best.Birth
	return *best, api.OK
}

func sameSight(a, b api.TableSight) bool {
	return a.Log == b.Log && a.Width == b.Width && slices.Equal(a.Cells, b.Cells) && slices.Equal(a.Entries, b.Entries) &&
		a.Live == b.Live && a.Births == b.Births && a.Made == b.Made
}

// change does one thing to a Dict and to its sequence; most things leave the size as it is.
func change(r *rand.Rand, d *probe.Dict, q *sequence, keys int) {
	key, value := r.Intn(keys), r.Int()
	again := func(key int) {
		take(d, key)
		put(d, key, value)
		q.take(q.place(key))
		q.put(key, value)
	}
	switch n := r.Intn(100); {
	case n < 30:
		if len(q.pairs) > 0 {
			again(q.pairs[r.Intn(len(q.pairs))].Key)
		}
	case n < 60:
		if q.place(key) >= 0 {
			put(d, key, value)
			q.put(key, value)
		}
	case n < 75: // one that comes for one that goes
		if len(q.pairs) > 0 && q.place(key) < 0 {
			gone := q.pairs[r.Intn(len(q.pairs))].Key
			take(d, gone)
			q.take(q.place(gone))
			put(d, key, value)
			q.put(key, value)
		}
	case n < 80:
		d.First()
		q.take(0)
		put(d, key, value)
		q.put(key, value)
	case n < 85:
		d.Last()
		q.take(len(q.pairs) - 1)
		put(d, key, value)
		q.put(key, value)
	case n < 90:
		put(d, key, value)
		q.put(key, value)
	case n < 93:
		take(d, key)
		q.take(q.place(key))
	case n < 95:
		d.Clear()
		for range len(q.pairs) {
			q.take(0)
		}
	case n < 97: // all of them anew, so that none of them is told back
		for _, e := range slices.Clone(q.pairs) {
			again(e.Key)
		}
	}
}

// TestGames plays several walks of one Dict, in turns, while it is changed, against the model.
func TestGames(t *testing.T) {
	type pair struct {
		real  *stroll.Stroll
		model *walk
	}
	told := map[api.Errno]int{}
	for seed := range 300 {
		r := rand.New(rand.NewSource(int64(seed)))
		m := &meter.Meter{}
		d, q := filled(t, m), &sequence{}
		keys := 1 + r.Intn(60)
		for range r.Intn(2 * keys) {
			key, value := r.Intn(keys), r.Int()
			put(d, key, value)
			q.put(key, value)
		}
		walks := make([]pair, 4)
		for step := range 400 {
			i := r.Intn(len(walks))
			if w := walks[i].model; w == nil || (w.ended || w.broken) && r.Intn(4) == 0 {
				back := r.Intn(2) == 0
				walks[i] = pair{stroll.New(d, back), &walk{of: q, back: back, kept: len(q.pairs)}}
			}
			version, counted := d.Version(), m.Read()
			for range r.Intn(4) {
				got, e := walks[i].real.Next()
				want, e2 := walks[i].model.next()
				if got != want || e != e2 {
					t.Fatalf("seed %d, step %d: got %+v, error %d, want %+v, %d", seed, step, got, e, want, e2)
				}
				told[e]++
			}
			if d.Version() != version || m.Read() != counted || !slices.Equal(d.Pairs(), q.pairs) {
				t.Fatalf("seed %d, step %d: a walk has changed something", seed, step)
			}
			if r.Intn(2) == 0 {
				change(r, d, q, keys)
			}
		}
	}
	for _, e := range []api.Errno{api.OK, api.ErrEnd, api.ErrSize} {
		if told[e] < 1000 {
			t.Errorf("the error %d was told %d times", e, told[e])
		}
	}
}

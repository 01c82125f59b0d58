package bulk

import (
	"lexicon/api"
	"lexicon/equal"
	"lexicon/probe"
	"lexicon/store"
)

// row does something with each element of a, then with each of b. (A pair and
// a value are elements here, too.)
type row struct {
	equal.Turning
	store    *store.Store
	op, a, b int
	ofA, ofB *probe.Dict // an items view's is that of what was gathered; nil: it has none
	into     *probe.Dict // what is put in, or copied, comes in here
	value    int         // that the row ends with

	left   []api.Entry // the elements that are still to be gone on with
	each   does        // what is done with each of them
	behind func() equal.Move
}

// does is what is done with an element.
type does func(x api.Entry) equal.Move

func toDo(s *store.Store, op, a, b int) equal.Task {
	r := &row{store: s, op: op, a: a, b: b}
	r.Way = r.begin
	return r
}

// IsTurn tells whether an element is ahead; there is no turn for one that is
// refused.
func (r *row) IsTurn() bool { return r.Turning.IsTurn() && r.refused() == 0 }

func (r *row) begin(api.Ask) equal.Move {
	if r.op == Gather || r.op == Frozen {
		r.a = r.store.NewSet(r.op == Frozen)
		r.value = r.a
	}
	return equal.Gathered(r.store, r.a, func(a *probe.Dict) equal.Move {
		return equal.Gathered(r.store, r.b, func(b *probe.Dict) equal.Move {
			r.ofA, r.ofB = a, b
			return r.gathered()
		})
	})
}

// gathered begins with the elements that there are now.
func (r *row) gathered() equal.Move {
	r.into = r.ofA
	switch r.op {
	case Or, And, Sub, Xor:
		r.value = r.result()
		r.into = equal.DictOf(r.store, r.value)
	case Lt, Le:
		if a, b := r.ofA.Len(), r.ofB.Len(); a > b || a == b && r.op == Lt {
			return equal.Yes(false)
		}
	case Extend:
		if len(equal.RowOf(r.store, r.a))+len(equal.RowOf(r.store, r.b)) > api.MaxItems {
			return equal.Fail(api.WhyOverflow)
		}
	}
	var a, b []api.Entry
	first, second := r.first(), r.second()
	if first != nil {
		a = r.elements(r.a, r.ofA)
	}
	if second != nil {
		b = r.elements(r.b, r.ofB)
	}
	return r.all(a, first, func() equal.Move { return r.all(b, second, r.end) })
}

// result is a new dictionary of a's kind; a set, if that is a view.
func (r *row) result() int {
	if kind := r.store.Kind(r.a); kind != api.ValDict {
		return r.store.NewSet(kind == api.ValFrozen)
	}
	return r.store.NewDict()
}

// elements is what there is now of one of the values.
func (r *row) elements(v int, of *probe.Dict) []api.Entry {
	if x, ok := r.store.Get(v).(*store.Str); ok {
		return runes(x.Text)
	}
	if of == nil {
		return entries(equal.RowOf(r.store, v))
	}
	pairs := of.Pairs()
	if r.store.Kind(r.a) != api.ValDict { // what comes of it has keys alone
		for i := range pairs {
			pairs[i].Value = 0
		}
	}
	return pairs
}

// all does something with each of the elements, and goes on behind them.
func (r *row) all(left []api.Entry, each does, behind func() equal.Move) equal.Move {
	r.left, r.each, r.behind = left, each, behind
	return r.next()
}

// next goes on to where an element is ahead.
func (r *row) next() equal.Move {
	if len(r.left) == 0 {
		return r.behind()
	}
	r.Turn = true
	return equal.Move{Then: r.element}
}

// goOn is next behind something of which nothing need be known.
func (r *row) goOn(api.Ask) equal.Move { return r.next() }

// element goes on with an element.
func (r *row) element(api.Ask) equal.Move {
	if why := r.refused(); why != 0 {
		return equal.Fail(why)
	}
	r.Turn = false
	x := r.left[0]
	r.left = r.left[1:]
	return r.each(x)
}

// refused is why the element that is ahead can't be gone on with; 0: it can.
func (r *row) refused() int {
	switch {
	case r.op == Spread && r.store.Kind(r.left[0].Key) != api.ValStr:
		return api.WhyType
	case r.op == Extend && len(equal.RowOf(r.store, r.a)) >= api.MaxItems: // it may have been changed since
		return api.WhyOverflow
	}
	return 0
}

func (r *row) end() equal.Move {
	if r.op == Lt || r.op == Le {
		return equal.Yes(true)
	}
	return equal.Done(r.value)
}

// entries is values as elements, which have no hash yet.
func entries(values []int) []api.Entry {
	list := make([]api.Entry, 0, len(values))
	for _, v := range values {
		list = append(list, api.Entry{Key: v})
	}
	return list
}

// runes is a text's runes as elements, which are no values yet.
func runes(text string) []api.Entry {
	var list []api.Entry
	for _, x := range text {
		list = append(list, api.Entry{Key: int(x)})
	}
	return list
}

package shared

import (
	"lexicon/api"
	"lexicon/table"
)

// stand is how a Space keeps its names and values: it is a row or an own one.
// Names go by the numbers of their entries in its table.
type stand interface {
	isShared() bool
	size() int
	table() *table.Table // the one in which names are sought
	has(entry int) bool
	value(entry int) int
	put(entry, value int)
	// add is told the entry that the new name has in its table, or none. What
	// add and take answer is how the Space stands from then on: a row that
	// can't do what it is asked for is turned, and has the other one do it.
	add(name string, entry, value int) stand
	take(entry int) stand
	pairs() []api.Pair
	sight() api.TableSight
}

// row is how a shared Space stands: its names are the first ones of the key table.
type row struct {
	family *Family
	values []int
}

func (r *row) isShared() bool { return true }

func (r *row) size() int { return len(r.values) }

func (r *row) table() *table.Table { return r.family.keys() }

func (r *row) has(entry int) bool { return entry != none && entry < len(r.values) }

func (r *row) value(entry int) int { return r.values[entry] }

func (r *row) put(entry, value int) { r.values[entry] = value }

func (r *row) add(name string, entry, value int) stand {
	if !r.fits(entry) {
		return r.turned().add(name, none, value)
	}
	if entry == none {
		r.family.add(r.table(), name, 0)
	}
	r.values = append(r.values, value)
	r.family.meter.Charge(1)
	return r
}

func (r *row) take(entry int) stand { return r.turned().take(entry) }

func (r *row) pairs() []api.Pair {
	pairs := make([]api.Pair, 0, len(r.values))
	for i, value := range r.values {
		entry, _ := r.table().At(i)
		pairs = append(pairs, api.Pair{Name: r.family.names[entry.Key], Value: value})
	}
	return pairs
}

// sight is nothing: what it stands on is the family's.
func (r *row) sight() api.TableSight { return api.TableSight{} }

// fits tells whether a new name comes next in the common order, or may be the
// one that comes next from now on.
func (r *row) fits(entry int) bool {
	if r.table().Len() > len(r.values) {
		return entry == len(r.values)
	}
	return len(r.values) < r.family.room
}

// turned is a private stand of the same names and values; its entries have the
// numbers that they have in the key table.
func (r *row) turned() *own {
	names := table.New(r.family.meter)
	for i, value := range r.values {
		entry, _ := r.table().At(i)
		names.Add(entry.Hash, entry.Key, value)
	}
	r.family.meter.Turn()
	return &own{family: r.family, names: names}
}

// own is how a private Space stands: it has a table of its own.
type own struct {
	family *Family
	names  *table.Table
}

func (o *own) isShared() bool { return false }

func (o *own) size() int { return o.names.Len() }

func (o *own) table() *table.Table { return o.names }

func (o *own) has(entry int) bool { return entry != none }

func (o *own) value(entry int) int {
	found, _ := o.names.At(entry)
	return found.Value
}

func (o *own) put(entry, value int) { o.names.Put(entry, value) }

func (o *own) add(name string, entry, value int) stand {
	o.family.add(o.names, name, value)
	return o
}

func (o *own) take(entry int) stand {
	o.names.Kill(entry)
	return o
}

func (o *own) pairs() []api.Pair {
	pairs := make([]api.Pair, 0, o.names.Len())
	for _, entry := range o.names.All() {
		pairs = append(pairs, api.Pair{Name: o.family.names[entry.Key], Value: entry.Value})
	}
	return pairs
}

func (o *own) sight() api.TableSight { return o.names.Sight() }

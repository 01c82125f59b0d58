package store

import (
	"slices"

	"lexicon/api"
	"lexicon/probe"
	"lexicon/shared"
)

// Value is what a reference refers to; each kind fills it in its own way.
// Both lists are new: who is told them may append to them.
type Value interface {
	parts() []int // the values that Parts tells
	more() []int  // the values that it has beside those
}

// lone is what those have alike that have no other values.
type lone struct{}

func (lone) parts() []int { return nil }

func (lone) more() []int { return nil }

// None, Bool, Int, Str and Native are plain.
type (
	None struct{ lone }

	Bool struct {
		lone
		Yes bool
	}

	Int struct {
		lone
		Num api.Int // in its form
	}

	Str struct {
		lone
		Text string // a good one
	}

	Native struct {
		lone
		Number int
		Name   string
	}
)

// row is what tuples and lists have alike.
type row struct {
	lone
	Values []int
}

func (r *row) parts() []int { return slices.Clone(r.Values) }

// Tuple is a row that stays as it is.
type Tuple struct{ row }

// List is a row that may be changed.
type List struct{ row }

// hashed is what dicts, sets and classes have alike.
type hashed struct {
	lone
	*probe.Dict
}

func (h hashed) parts() []int {
	var list []int
	for _, pair := range h.Pairs() {
		list = append(list, pair.Key, pair.Value)
	}
	return list
}

// Dict is keys and what they stand for.
type Dict struct{ hashed }

// Set is keys alone, each with the value 0, which is no reference here.
type Set struct {
	hashed
	Frozen bool
}

func (x *Set) parts() []int {
	var list []int
	for _, pair := range x.Pairs() {
		list = append(list, pair.Key)
	}
	return list
}

// Func is a function of a program.
type Func struct {
	lone
	Number   int // in the program
	Name     string
	Defaults []int
	Cells    []int
}

func (x *Func) more() []int { return slices.Concat(x.Defaults, x.Cells) }

// Bound is a value and the function of which it is the first argument.
type Bound struct {
	lone
	Value int
	Func  int
}

func (x *Bound) more() []int { return []int{x.Value, x.Func} }

// Class is a name and a namespace; Hash and Same tell whether its Term said
// __hash__, __eq__, which are no names of its namespace then.
type Class struct {
	hashed
	Name   string
	Base   int // Nothing: it has none
	Family *shared.Family
	Hash   bool
	Same   bool
}

func (x *Class) more() []int { return []int{x.Base} }

// Instance is one of a class, with names of its own.
type Instance struct {
	Class int
	*shared.Space
}

func (x *Instance) parts() []int {
	var list []int
	for _, pair := range x.Pairs() {
		list = append(list, pair.Value)
	}
	return list
}

func (x *Instance) more() []int { return []int{x.Class} }

// View is a dict as keys, values or items, or the names of an instance or a
// class: What is its kind.
type View struct {
	lone
	What int
	Of   int
}

func (x *View) parts() []int { return []int{x.Of} }

// Walk is how an Iter goes: that is the affair of those who make one.
type Walk interface {
	Through() int // what it goes through; Nothing, too
}

// Iter is a walk.
type Iter struct {
	lone
	Walk Walk
}

func (x *Iter) more() []int { return []int{x.Walk.Through()} }

// Cell is a value, or Nothing.
type Cell struct {
	lone
	Value int
}

func (x *Cell) more() []int { return []int{x.Value} }

// kindOf is what kind a value is of; 0 of none.
func kindOf(x Value) int {
	switch x := x.(type) {
	case *None:
		return api.ValNone
	case *Bool:
		return api.ValBool
	case *Int:
		return api.ValInt
	case *Str:
		return api.ValStr
	case *Tuple:
		return api.ValTuple
	case *List:
		return api.ValList
	case *Dict:
		return api.ValDict
	case *Set:
		if x.Frozen {
			return api.ValFrozen
		}
		return api.ValSet
	case *Func:
		return api.ValFunc
	case *Native:
		return api.ValNative
	case *Bound:
		return api.ValBound
	case *Class:
		return api.ValClass
	case *Instance:
		return api.ValInstance
	case *View:
		return x.What
	case *Iter:
		return api.ValIter
	case *Cell:
		return api.ValCell
	}
	return 0
}

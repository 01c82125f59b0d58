package store

import (
	"slices"

	"lexicon/api"
	"lexicon/probe"
	"lexicon/shared"
)

// What follows is for the packages below this one: they look at values by
// Get, and make them one by one. That a text is good, a row not too long, a
// reference a value of the right kind is for them to see to.

// Get is what a reference refers to; nil, if it is no value.
func (s *Store) Get(v int) Value {
	if s == nil {
		return nil
	}
	x, _ := s.values.Get(v)
	return x
}

// NewNone is None.
func (s *Store) NewNone() int { return s.once(&None{}) }

// NewBool is True or False.
func (s *Store) NewBool(yes bool) int { return s.once(&Bool{Yes: yes}) }

// NewInt is an int; x is not long.
func (s *Store) NewInt(x api.Int) int {
	num, _ := formed(x)
	return s.add(&Int{Num: num})
}

// NewStr is a str.
func (s *Store) NewStr(text string) int { return s.add(&Str{Text: text}) }

// NewNative is a native function.
func (s *Store) NewNative(number int, name string) int {
	return s.add(&Native{Number: number, Name: name})
}

// NewTuple is a tuple.
func (s *Store) NewTuple(values []int) int { return s.add(&Tuple{rowOf(values)}) }

// NewList is a list.
func (s *Store) NewList(values []int) int { return s.add(&List{rowOf(values)}) }

// NewDict is a dict without a pair.
func (s *Store) NewDict() int { return s.add(&Dict{s.hashed()}) }

// NewSet is a set, or a frozen set, without an element.
func (s *Store) NewSet(frozen bool) int { return s.add(&Set{hashed: s.hashed(), Frozen: frozen}) }

// NewFunc is a function of a program.
func (s *Store) NewFunc(number int, name string, defaults, cells []int) int {
	return s.add(&Func{Number: number, Name: name, Defaults: slices.Clone(defaults), Cells: slices.Clone(cells)})
}

// NewBound is a function with its first argument.
func (s *Store) NewBound(value, function int) int {
	return s.add(&Bound{Value: value, Func: function})
}

// NewClass is a class without a name in its namespace; base may be Nothing.
func (s *Store) NewClass(name string, base int) int { return s.add(s.class(name, base)) }

// NewInstance is an instance without a name; of what is no class it is
// Nothing.
func (s *Store) NewInstance(class int) int {
	x, ok := s.Get(class).(*Class)
	if !ok {
		return Nothing
	}
	return s.add(&Instance{Class: class, Space: x.Family.Make()})
}

// NewView is a view.
func (s *Store) NewView(what, of int) int { return s.add(&View{What: what, Of: of}) }

// NewIter is a walk.
func (s *Store) NewIter(w Walk) int { return s.add(&Iter{Walk: w}) }

// NewCell is a cell that has nothing.
func (s *Store) NewCell() int { return s.add(&Cell{Value: Nothing}) }

// once is the one reference of None, of a bool: these can always be reached,
// so that each new one would stay for good.
func (s *Store) once(x Value) int {
	for _, v := range s.always {
		if kindOf(s.Get(v)) == kindOf(x) && areEqual(s.Get(v), x) {
			return v
		}
	}
	v := s.add(x)
	s.always = append(s.always, v)
	return v
}

// add gives a value a reference, and an object a number.
func (s *Store) add(x Value) int {
	v := s.values.Add(x)
	if !isPlain(x) {
		s.last++
		s.keep(v, s.last)
	}
	return v
}

// keep notes the number of an object.
func (s *Store) keep(v, number int) {
	if s.numbers == nil { // a zero Store, too, may make something
		s.numbers = map[int]int{}
	}
	s.numbers[v] = number
}

func (s *Store) class(name string, base int) *Class {
	// What New has taken is right for a Family, too.
	family, _ := shared.New(s.shared, s.pairs, s.meter)
	return &Class{hashed: s.hashed(), Name: name, Base: base, Family: family}
}

func (s *Store) hashed() hashed {
	dict, _ := probe.New(s.pairs, s.meter)
	return hashed{Dict: dict}
}

func rowOf(values []int) row { return row{Values: slices.Clone(values)} }

package store

import (
	"lexicon/api"
	"lexicon/digest"
	"lexicon/whole"
)

// noneHash is the number whose hash is that of None.
const noneHash = -7

// isPlain tells whether a value is known by what it is.
func isPlain(x Value) bool {
	switch x.(type) {
	case *None, *Bool, *Int, *Str, *Native:
		return true
	}
	return false
}

// areEqual tells whether two plain values are equal; objects never are.
func areEqual(a, b Value) bool {
	if m, ok := numberOf(a); ok {
		n, ok := numberOf(b)
		return ok && whole.Compare(m, n) == 0
	}
	switch x := a.(type) {
	case *None:
		_, ok := b.(*None)
		return ok
	case *Str:
		y, ok := b.(*Str)
		return ok && x.Text == y.Text
	case *Native:
		y, ok := b.(*Native)
		return ok && x.Number == y.Number
	}
	return false
}

// numberOf is the number that an int is, or a bool.
func numberOf(x Value) (api.Int, bool) {
	switch x := x.(type) {
	case *Bool:
		return ofBool(x.Yes), true
	case *Int:
		return x.Num, true
	}
	return api.Int{}, false
}

func ofBool(yes bool) api.Int {
	if yes {
		return whole.Of(1)
	}
	return api.Int{}
}

// formed is an Int in its form, or why there may be no such one.
func formed(x api.Int) (api.Int, api.Errno) { return whole.Add(x, api.Int{}) }

// Hash is the hash as a key (20) of a value of which nobody need be asked: of
// a plain one by what it is, of an object by its number.
func (s *Store) Hash(v int) int {
	x := s.Get(v)
	if n, ok := numberOf(x); ok {
		return digest.Whole(n)
	}
	switch x := x.(type) {
	case *None:
		return digest.Whole(whole.Of(noneHash))
	case *Str:
		return digest.Text(x.Text)
	case *Native:
		return digest.Text(x.Name)
	}
	return digest.Number(s.Number(v))
}

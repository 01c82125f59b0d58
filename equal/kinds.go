package equal

import (
	"lexicon/api"
	"lexicon/probe"
	"lexicon/store"
)

// What a class may say of how its instances are hashed, and compared.
const (
	hashName = "__hash__"
	sameName = "__eq__"
)

// IsValue tells whether a reference is that of a value.
func IsValue(s *store.Store, v int) bool { return s.Kind(v) != 0 }

// isDictionary tells whether values of a kind have a Dict of their own.
func isDictionary(kind int) bool {
	switch kind {
	case api.ValDict, api.ValSet, api.ValFrozen:
		return true
	}
	return false
}

// IsRow tells whether values of a kind have a row of values.
func IsRow(kind int) bool { return kind == api.ValTuple || kind == api.ValList }

// IsSide tells whether values of a kind are elements, which can be compared
// with those of all such kinds.
func IsSide(kind int) bool {
	switch kind {
	case api.ValSet, api.ValFrozen, api.ValKeys, api.ValItems:
		return true
	}
	return false
}

// mayHave tells whether something can be looked for in values of a kind.
func mayHave(kind int) bool {
	return IsRow(kind) || IsSide(kind) || kind == api.ValDict || kind == api.ValValues
}

// RowOf is the values that a tuple or a list has now.
func RowOf(s *store.Store, v int) []int {
	switch x := s.Get(v).(type) {
	case *store.Tuple:
		return x.Values
	case *store.List:
		return x.Values
	}
	return nil
}

// DictOf is the Dict of a dictionary, or of the one that a view is of.
func DictOf(s *store.Store, v int) *probe.Dict {
	switch x := s.Get(v).(type) {
	case *store.Dict:
		return x.Dict
	case *store.Set:
		return x.Dict
	case *store.View:
		if of, ok := s.Get(x.Of).(*store.Dict); ok {
			return of.Dict
		}
	}
	return nil
}

func saysHash(s *store.Store, v int) bool {
	return says(s, v, hashName, func(c *store.Class) bool { return c.Hash })
}

func saysSame(s *store.Store, v int) bool {
	return says(s, v, sameName, func(c *store.Class) bool { return c.Same })
}

// says tells whether an instance's class, its base, and so on, has a name, or
// is marked as one that says it.
func says(s *store.Store, v int, name string, marked func(*store.Class) bool) bool {
	x, ok := s.Get(v).(*store.Instance)
	if !ok {
		return false
	}
	for c, ok := s.Get(x.Class).(*store.Class); ok; c, ok = s.Get(c.Base).(*store.Class) {
		if marked(c) || isNamed(s, c, name) {
			return true
		}
	}
	return false
}

// isNamed tells whether a class's own namespace has a name. One without names
// (a class of Build has such a one) is not looked at: that would be counted.
func isNamed(s *store.Store, c *store.Class, name string) bool {
	if c.Len() == 0 {
		return false
	}
	_, ok := s.Named(c.Dict, name)
	return ok
}

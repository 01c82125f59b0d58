package shared

import (
	"math"
	"testing"

	"lexicon/api"
)

// TestVersionsWrapRound: so many changes cannot be made one by one, so the version is set.
func TestVersionsWrapRound(t *testing.T) {
	rows := []struct {
		from  uint
		ahead int
		then  int
	}{
		{math.MaxInt, math.MaxInt, math.MinInt},
		{math.MaxUint, -1, 0},
		{0, 0, 1},
	}
	changes := []struct {
		name string
		do   func(s *Space) api.Errno
	}{
		{"Set of a name that it has", func(s *Space) api.Errno { return s.Set("x", 2) }},
		{"Set of a new name", func(s *Space) api.Errno { return s.Set("y", 2) }},
		{"Del", func(s *Space) api.Errno { return s.Del("x") }},
	}
	for _, r := range rows {
		for _, c := range changes {
			f, _ := New(3, 3, nil)
			s := f.Make()
			s.Set("x", 1)
			s.version = r.from
			if s.Version() != r.ahead {
				t.Errorf("%s: Version %d, want %d", c.name, s.Version(), r.ahead)
			}
			if e := c.do(s); e != api.OK || s.Version() != r.then {
				t.Errorf("%s: error %d, Version %d, want %d", c.name, e, s.Version(), r.then)
			}
		}
	}
}

package probe

import (
	"math"
	"testing"

	"lexicon/api"
)

// TestVersionsWrapRound: so many changes cannot be made one by one, so the version is set.
func TestVersionsWrapRound(t *testing.T) {
	rows := []struct {
		from  uint
		ahead int
		then  int
	}{
		{math.MaxInt, math.MaxInt, math.MinInt},
		{math.MaxUint, -1, 0},
		{0, 0, 1},
	}
	for _, r := range rows {
		d, _ := New(3, nil)
		d.Begin(api.GoalPut, 7, 1, 10).Step()
		d.version = r.from
		m := d.Begin(api.GoalGet, 7, 9, 0)
		turn := m.Step()
		if d.Version() != r.ahead || turn.Kind != api.TurnAsk {
			t.Fatalf("%+v: Version %d, %+v", r, d.Version(), turn)
		}
		d.Begin(api.GoalPut, 1, 2, 20).Step()
		if d.Version() != r.then {
			t.Errorf("%+v: Version %d behind a change", r, d.Version())
		}
		m.Tell(true)
		if turn := m.Step(); turn != (api.Turn{Kind: api.TurnAsk, Key: 1}) || m.Scans() != 2 {
			t.Errorf("%+v: %+v, %d scans: it begins anew", r, turn, m.Scans())
		}
		if d.Copy().Version() != 0 {
			t.Errorf("%+v: the version of a Copy: %d", r, d.Copy().Version())
		}
	}
}

package store

import (
	"lexicon/api"
	"lexicon/digest"
	"lexicon/probe"
)

// Named is what a name stands for in a Dict whose keys are strs, as those of a
// class's namespace are; false, if it is none of them.
func (s *Store) Named(d *probe.Dict, name string) (int, bool) {
	// The name need not be a value: nothing that is there has its number.
	m := d.Begin(api.GoalGet, digest.Text(name), Nothing, 0)
	turn := m.Step()
	for turn.Kind == api.TurnAsk {
		key, ok := s.Get(turn.Key).(*Str)
		m.Tell(ok && key.Text == name)
		turn = m.Step()
	}
	return turn.Value, turn.Found
}

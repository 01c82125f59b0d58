package table

import (
	"lexicon/api"
	"lexicon/trail"
)

const none = -1 // stands for an entry's number where there is none; it is below all of them

// Seeker goes along a hash's trail, from entry to entry.
type Seeker struct {
	table   *Table // nil: it has ended
	changes int    // of the table, at Seek
	hash    int
	walk    trail.Walk
	told    int // the last one
	visited int
}

// Seek begins to go along a hash's trail.
func (t *Table) Seek(hash int) *Seeker {
	if t == nil {
		return nil
	}
	t.ready()
	return &Seeker{
		table:   t,
		changes: t.changes,
		hash:    hash,
		walk:    trail.Begin(hash, t.index.Log()),
		told:    none,
	}
}

// Next is the number of the next live entry of that hash.
func (s *Seeker) Next() (int, bool) {
	if s.hasEnded() {
		return none, false
	}
	// This comes to an end, since each trail comes to each cell, and there
	// always is an Empty one.
	for {
		held := s.visit()
		if held == api.Empty {
			s.table = nil
			return none, false
		}
		// Dead is below all numbers, so it is passed over.
		if held > s.told && s.table.entries[held].Hash == s.hash {
			s.told = held
			return held, true
		}
	}
}

// Visited is how many cells were visited.
func (s *Seeker) Visited() int {
	if s == nil {
		return 0
	}
	return s.visited
}

// hasEnded tells whether there is nothing more to be visited.
func (s *Seeker) hasEnded() bool {
	return s == nil || s.table == nil || s.changes != s.table.changes
}

// visit is what the cell holds at which it stands; it stands behind it then.
func (s *Seeker) visit() int {
	held, _ := s.table.index.Get(s.walk.Cell())
	s.walk.Step()
	s.visited++
	s.table.meter.Visit(1)
	return held
}

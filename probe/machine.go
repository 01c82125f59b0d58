package probe

import (
	"lexicon/api"
	"lexicon/table"
)

// Machine is a lookup that can be left and gone on with.
type Machine struct {
	*table.Seeker // of the scan that was begun last; nil: none was

	dict             *Dict
	does             row
	hash, key, value int

	version uint // of the Dict, when the scan began
	scans   int

	turn  api.Turn // with which it waits, or has ended; of no kind: it can go on
	asked int      // the number of the entry that it waited at
	same  bool     // what it was told of that one
}

// Step goes on, up to what the machine asks, or its end.
func (m *Machine) Step() api.Turn {
	if m.isNone() {
		return api.Turn{}
	}
	if m.turn.Kind == 0 {
		m.turn = m.goOn()
	}
	return m.turn
}

// Tell answers what it asked.
func (m *Machine) Tell(same bool) api.Errno {
	if m.isNone() {
		return api.ErrArg
	}
	if m.turn.Kind != api.TurnAsk {
		return api.ErrState
	}
	m.turn = api.Turn{}
	m.same = same
	return api.OK
}

// Scan is how many cells it has visited since it began, or began anew.
func (m *Machine) Scan() int {
	if m == nil {
		return 0
	}
	return m.Visited()
}

// Scans is how often it began.
func (m *Machine) Scans() int {
	if m == nil {
		return 0
	}
	return m.scans
}

// isNone tells whether it is of no Dict.
func (m *Machine) isNone() bool { return m == nil || m.dict == nil }

// goOn goes to the next entry that it has to ask about, or to its end.
func (m *Machine) goOn() api.Turn {
	if m.scans == 0 || m.version != m.dict.version {
		m.beginScan()
	} else if m.same {
		return m.hit(m.asked)
	}
	number, ok := m.Next()
	if !ok {
		return m.does.miss(m)
	}
	entry, _ := m.dict.kept().At(number)
	if entry.Key == m.key {
		return m.hit(number)
	}
	m.asked = number
	return api.Turn{Kind: api.TurnAsk, Key: entry.Key}
}

// beginScan goes back to the beginning of its hash's trail.
func (m *Machine) beginScan() {
	m.Seeker = m.dict.kept().Seek(m.hash)
	m.version = m.dict.version
	m.scans++
}

// hit ends it at an entry of its key.
func (m *Machine) hit(number int) api.Turn {
	entry, _ := m.dict.kept().At(number)
	m.does.hit(m, number)
	return api.Turn{Kind: api.TurnDone, Found: true, Value: entry.Value, Entry: number}
}

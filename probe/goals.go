package probe

import "lexicon/api"

const none = -1 // stands for an entry's number where there is none

// row is what is done for a goal: to the entry that is hit, and where none is.
type row struct {
	goal int
	hit  func(m *Machine, number int)
	miss func(m *Machine) api.Turn
}

// rowOf is the row of a goal.
func rowOf(goal int) (row, bool) {
	rows := []row{
		{goal: api.GoalGet, hit: leave, miss: tellNone},
		{goal: api.GoalPut, hit: turnValue, miss: addPair},
		{goal: api.GoalDelete, hit: takeOut, miss: tellNone},
		{goal: api.GoalKeep, hit: leave, miss: addPair},
	}
	for _, r := range rows {
		if r.goal == goal {
			return r, true
		}
	}
	return row{}, false
}

func leave(m *Machine, number int) {}

func turnValue(m *Machine, number int) { m.dict.turn(number, m.value) }

func takeOut(m *Machine, number int) { m.dict.take(number) }

func tellNone(m *Machine) api.Turn {
	return api.Turn{Kind: api.TurnDone, Entry: none}
}

func addPair(m *Machine) api.Turn {
	number, ok := m.dict.Add(m.hash, m.key, m.value)
	if !ok {
		return api.Turn{Kind: api.TurnFull}
	}
	return api.Turn{Kind: api.TurnDone, Value: m.value, Entry: number}
}

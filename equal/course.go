package equal

import (
	"lexicon/api"
	"lexicon/store"
)

// Course is what all machines on values have alike: a task that is under way,
// and those that it waits for. A zero one has none.
type Course struct {
	store *store.Store // nil: it has no task
	tasks []Task       // each waits for the one behind it; the last one goes on
	came  api.Ask      // what came of the task that ended last; its Value is what was told
	ask   api.Ask      // with which it waits, or has ended; of no kind: it can go on
	turns int
}

// Begin is a Course that has not begun with its task.
func Begin(s *store.Store, first Task) Course {
	return Course{store: s, tasks: []Task{first}}
}

// GoOn goes on up to an ask or the end, or to where it has taken most turns.
func (c *Course) GoOn(most int) api.Ask {
	if c.store == nil {
		return api.Ask{}
	}
	for left := most; c.ask.Kind == 0; c.move() {
		if !c.isTurnAhead() {
			continue
		}
		if left <= 0 {
			return api.Ask{Kind: api.TurnMore}
		}
		left--
		c.turns++
	}
	return c.ask
}

// Told takes the answer to what it asked for.
func (c *Course) Told(v int) api.Errno {
	switch {
	case c.store == nil:
		return api.ErrArg
	case c.ask.Kind != api.TurnAsk:
		return api.ErrState
	case !IsValue(c.store, v):
		return api.ErrArg
	}
	c.came = api.Ask{Value: v}
	c.ask = api.Ask{}
	return api.OK
}

// Turns is how many turns it has taken.
func (c *Course) Turns() int { return c.turns }

// isTurnAhead tells whether what the last task does next is a turn.
func (c *Course) isTurnAhead() bool {
	last := c.tasks[len(c.tasks)-1]
	if t, ok := last.(Turner); ok {
		return t.IsTurn()
	}
	return false
}

// move lets the last task do a little.
func (c *Course) move() {
	last := len(c.tasks) - 1
	next := c.tasks[last].Next(c.came)
	c.came = api.Ask{}
	switch {
	case next.First != nil:
		c.tasks = append(c.tasks, next.First)
	case next.Ask.Kind == api.TurnDone && last > 0:
		c.tasks[last] = nil
		c.tasks = c.tasks[:last]
		c.came = next.Ask
	case next.Ask.Kind == api.TurnAsk:
		c.ask = next.Ask
	case next.Ask.Kind != 0:
		c.ask = next.Ask
		c.tasks = nil
	}
}

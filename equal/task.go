package equal

import "lexicon/api"

// task is something that is done little by little.
type task interface {
	// next does a little, with what came of what the task waited for, and
	// tells what comes next.
	next(came api.Ask) move
}

// turner is a task that takes turns of its own.
type turner interface {
	// isTurn tells whether what it does next is one.
	isTurn() bool
}

// move is what comes next of a task: another task, or an ask, for which it
// waits; or its end. Where there is none of these it goes on at once.
type move struct {
	first task
	ask   api.Ask
	then  way // how it goes on behind that
}

// way is how a task goes on.
type way func(came api.Ask) move

// ways is what all tasks have: a way, which is turned into the one behind it.
type ways struct{ way way }

func (w *ways) next(came api.Ask) move {
	next := w.way(came)
	w.way = next.then
	return next
}

// turning is what tasks have that take turns.
type turning struct {
	ways
	turn bool // the way that comes next is one
}

func (t *turning) isTurn() bool { return t.turn }

// after is the move to another task, behind which a task goes on.
func after(first task, then way) move { return move{first: first, then: then} }

// yes is an end that tells just whether it is so.
func yes(so bool) move { return move{ask: api.Ask{Kind: api.TurnDone, Yes: so}} }

// as ends a task as the one has that it waited for.
func as(came api.Ask) move { return move{ask: came} }

func fail(why int) move { return move{ask: api.Ask{Kind: api.TurnFail, Why: why}} }

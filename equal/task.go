package equal

import "lexicon/api"

// Task is something that is done little by little.
type Task interface {
	// Next does a little, with what came of what the task waited for, and
	// tells what comes next.
	Next(came api.Ask) Move
}

// Turner is a task that takes turns of its own.
type Turner interface {
	// IsTurn tells whether what it does next is one.
	IsTurn() bool
}

// Move is what comes next of a task: another task, or an ask, for which it
// waits; or its end. Where there is none of these it goes on at once.
type Move struct {
	First Task
	Ask   api.Ask
	Then  Way // how it goes on behind that
}

// Way is how a task goes on.
type Way func(came api.Ask) Move

// Ways is what all tasks have: a way, which is turned into the one behind it.
type Ways struct{ Way Way }

// Next goes the way.
func (w *Ways) Next(came api.Ask) Move {
	next := w.Way(came)
	w.Way = next.Then
	return next
}

// Turning is what tasks have that take turns.
type Turning struct {
	Ways
	Turn bool // the way that comes next is one
}

// IsTurn tells whether the way that comes next is one.
func (t *Turning) IsTurn() bool { return t.Turn }

// After is the move to another task, behind which a task goes on.
func After(first Task, then Way) Move { return Move{First: first, Then: then} }

// Yes is an end that tells just whether it is so.
func Yes(so bool) Move { return Move{Ask: api.Ask{Kind: api.TurnDone, Yes: so}} }

// Done is an end that tells just a value.
func Done(value int) Move { return Move{Ask: api.Ask{Kind: api.TurnDone, Value: value}} }

// Fail is an end where something may not be.
func Fail(why int) Move { return Move{Ask: api.Ask{Kind: api.TurnFail, Why: why}} }

// Full is an end where a Dict has all pairs that it may have.
func Full() Move { return Move{Ask: api.Ask{Kind: api.TurnFull}} }

// as ends a task as the one has that it waited for.
func as(came api.Ask) Move { return Move{Ask: came} }

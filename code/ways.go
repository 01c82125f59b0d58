package code

import (
	"lexicon/api"
)

// state is what an instruction is come to with.
type state struct {
	reached bool
	depth   int
	tries   int
}

// A walker goes all ways through a function's instructions. It goes through
// each one once: where two ways meet they must have one state, so that all
// behind it would be the same again.
type walker struct {
	program api.Program
	code    []api.Instr
	states  []state
	waiting []int // a stack of instructions that are to be looked at
}

// waysMeet tells whether all ways through instructions, each of which may stand
// there, can be gone.
func waysMeet(p api.Program, code []api.Instr) bool {
	w := &walker{program: p, code: code, states: make([]state, len(code))}
	if !w.come(0, state{reached: true}) {
		return false
	}
	for len(w.waiting) > 0 {
		last := len(w.waiting) - 1
		at := w.waiting[last]
		w.waiting = w.waiting[:last]
		if !w.leave(at) {
			return false
		}
	}
	return true
}

// come tells whether an instruction can be come to with a state.
func (w *walker) come(at int, with state) bool {
	if at >= len(w.code) || with.depth > api.MaxStack {
		return false
	}
	if w.states[at].reached {
		return w.states[at] == with
	}
	w.states[at] = with
	w.waiting = append(w.waiting, at)
	return true
}

// leave tells whether an instruction can be done, and comes to all behind it.
func (w *walker) leave(at int) bool {
	i, s := w.code[at], w.states[at]
	r := rowOf(i)
	left := s.depth - r.takes - w.frees(i)
	if left < 0 || r.a == aPlace && left < i.A {
		return false
	}
	if r.a == anInstruction && !w.come(i.A, state{true, left + r.there, s.tries}) {
		return false
	}
	tries := s.tries
	switch i.Op {
	case api.OpJump, api.OpReturn, api.OpRaise:
		return true
	case api.OpTry:
		tries++
	case api.OpEndTry:
		tries--
	}
	return tries >= 0 && w.come(at+1, state{true, left + r.gives, tries})
}

// frees is what an OpFunc takes beside what its row says. The other function's
// Frees may be any number: a greater or lesser one than these is out of bounds
// as well, and would wrap round.
func (w *walker) frees(i api.Instr) int {
	if i.Op != api.OpFunc {
		return 0
	}
	const most = 2 * (api.MaxStack + api.MaxNames)
	return max(-most, min(most, w.program.Funcs[i.A].Frees))
}

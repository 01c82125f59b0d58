package sweep

import "lexicon/slots"

// way is a way through slots, from some to those that they lead to.
type way struct {
	reached, left marks
	// stack is the reached ones that were not gone on from yet. It is no
	// recursion: a chain may be as long as there are slots.
	stack []int
}

// begin is a way that has reached nothing.
func begin[T any](s *slots.Slots[T]) *way {
	w := &way{reached: unmarked(s.High()), left: unmarked(s.High())}
	for i := range s.All() {
		w.left.put(i)
	}
	return w
}

// reach keeps nothing of the list but numbers: whoever made it may use its
// memory again.
func (w *way) reach(numbers []int) {
	for _, i := range numbers {
		if w.left.take(i) {
			w.reached.put(i)
			w.stack = append(w.stack, i)
		}
	}
}

// next is the slot from which the way goes on.
func (w *way) next() (int, bool) {
	last := len(w.stack) - 1
	if last < 0 {
		return 0, false
	}
	i := w.stack[last]
	w.stack = w.stack[:last]
	return i, true
}

package compile

import (
	"strconv"

	"lexicon/api"
)

// A writer lays the code of one function.
type writer struct {
	lists  *lists
	scopes []api.Scope
	number int
	uses   map[string]api.Use // what names are here
	cells  map[string]int     // the Slots of those that are a cell or a free here
	names  []string           // of the locals that are known so far
	tries  int                // that were laid
	code   []api.Instr
	later  []func() // fill in the places that instructions lead to
}

func newWriter(l *lists, scopes []api.Scope, number int) *writer {
	w := &writer{lists: l, scopes: scopes, number: number, uses: map[string]api.Use{}, cells: map[string]int{}}
	for _, u := range scopes[number].Uses {
		if u.What == api.UseCell || u.What == api.UseFree {
			w.cells[u.Name] = u.Slot
		}
		if w.uses[u.Name].What == 0 || u.What != api.UseFree {
			w.uses[u.Name] = u
		}
	}
	return w
}

func (w *writer) lay(op, a, b int) {
	w.code = append(w.code, api.Instr{Op: op, A: a, B: b})
}

// plain lays an instruction that has neither A nor B.
func (w *writer) plain(op int) { w.lay(op, 0, 0) }

func (w *writer) constant(c api.Const) { w.lay(api.OpConst, w.lists.constant(c), 0) }

// named lays an instruction whose A is a name.
func (w *writer) named(op int, name string) { w.lay(op, w.lists.name(name), 0) }

// A place is that of an instruction. It may be told ahead of being known.
type place struct{ at int }

func (w *writer) here() *place { return &place{len(w.code)} }

// land makes a place that of the next instruction.
func (w *writer) land(p *place) { p.at = len(w.code) }

// lead lays an instruction that leads to a place.
func (w *writer) lead(op int, to *place) {
	at := len(w.code)
	w.plain(op)
	w.later = append(w.later, func() { w.code[at].A = to.at })
}

// finish is for the end, when all places are known.
func (w *writer) finish() {
	for _, fill := range w.later {
		fill()
	}
}

// An access is the instructions that do one thing to names, by what these are.
type access struct{ local, cell, global, class int }

func (w *writer) reach(name string, by access) {
	switch u := w.uses[name]; u.What {
	case api.UseLocal:
		w.lay(by.local, u.Slot, 0)
	case api.UseCell, api.UseFree:
		w.lay(by.cell, u.Slot, 0)
	case api.UseGlobal:
		w.named(by.global, name)
	case api.UseClass:
		w.named(by.class, name)
	}
}

func (w *writer) load(name string) {
	w.reach(name, access{api.OpLoadLocal, api.OpLoadCell, api.OpLoadGlobal, api.OpLoadName})
}

func (w *writer) store(name string) {
	w.reach(name, access{api.OpStoreLocal, api.OpStoreCell, api.OpSetGlobal, api.OpSetName})
}

func (w *writer) remove(name string) {
	w.reach(name, access{api.OpDelLocal, api.OpDelCell, api.OpDelGlobal, api.OpDelName})
}

// newTry is the place of a Try, behind those of all locals that are known:
// statements are laid in the order of the tree, so their Trys are as well.
func (w *writer) newTry() int {
	at := len(w.names)
	w.names = append(w.names, ".e"+strconv.Itoa(w.tries))
	w.tries++
	return at
}

// within lays what makes a function of a part that is a scope.
func (w *writer) within(p *part, defaults int) {
	for _, u := range w.scopes[p.scope].Uses { // their Slots rise with their names
		if u.What == api.UseFree {
			w.lay(api.OpPushCell, w.cells[u.Name], 0)
		}
	}
	w.lay(api.OpFunc, p.scope, defaults)
}

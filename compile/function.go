package compile

import (
	"lexicon/api"
)

// function lays a scope's function.
func (w *writer) function(p *part) api.Func {
	s := w.scopes[w.number]
	f := api.Func{Kind: s.Kind, Cells: s.Cells, Frees: s.Frees}
	switch p.kind {
	case api.NodeModule:
		w.body(p.kid(0))
	case api.NodeDef:
		f.Name = p.text
		f.Params, f.Defaults, f.Rest = countParams(p.params())
		w.def(p)
	case api.NodeClass:
		f.Name = p.text
		w.body(p.kid(1))
	default:
		f.Params = 1
		w.comprehension(p)
	}
	w.finish()
	f.Names, f.Code = w.names, w.code
	return f
}

func countParams(list []part) (params, defaults int, rest bool) {
	for i := range list {
		switch p := &list[i]; {
		case len(p.kids) == 0:
			rest = true
			continue
		case p.hasDefault():
			defaults++
		}
		params++
	}
	return params, defaults, rest
}

// nameLocals names the places of a Def, a comprehension: those told ahead are
// taken, the others are the locals', whose Slots rise with their names.
func (w *writer) nameLocals(ahead ...string) {
	w.names = append(w.names, ahead...)
	for _, u := range w.scopes[w.number].Uses {
		if u.What == api.UseLocal && u.Slot >= len(ahead) {
			w.names = append(w.names, u.Name)
		}
	}
}

// body is the Block of a Module, a Def, a Class, and its end.
func (w *writer) body(block *part) {
	w.block(block, setting{})
	w.constant(none())
	w.plain(api.OpReturn)
}

func (w *writer) def(p *part) {
	var names []string
	for _, param := range p.params() {
		names = append(names, param.text)
	}
	w.nameLocals(names...)
	for i, name := range names {
		if u := w.uses[name]; u.What == api.UseCell {
			w.lay(api.OpLoadLocal, i, 0)
			w.lay(api.OpStoreCell, u.Slot, 0)
		}
	}
	w.body(p.last())
}

// comprehension keeps what it gathers under the walk that it goes through.
func (w *writer) comprehension(p *part) {
	w.nameLocals(".0")
	w.plain(emptyOf(p.kind))
	w.lay(api.OpLoadLocal, 0, 0)
	top, end := w.here(), &place{}
	w.lead(api.OpNext, end)
	w.give(p.kid(1))
	for i := range p.kids[3:] {
		w.expression(p.kid(3 + i))
		w.lead(api.OpIfNot, top)
	}
	w.gather(p)
	w.lead(api.OpJump, top)
	w.land(end)
	w.plain(api.OpReturn)
}

func emptyOf(kind int) int {
	switch kind {
	case api.NodeSetComp:
		return api.OpSet
	case api.NodeDictComp:
		return api.OpDict
	}
	return api.OpList
}

// gather lays what a comprehension does with each value that it comes to.
func (w *writer) gather(p *part) {
	const behindWalk = 2
	first := p.kid(0)
	switch p.kind {
	case api.NodeListComp:
		w.expression(first)
		w.lay(api.OpAppend, behindWalk, 0)
	case api.NodeSetComp:
		w.expression(first)
		w.lay(api.OpAddItem, behindWalk, 0)
	case api.NodeDictComp:
		w.expressions(first.kids)
		w.lay(api.OpAddPair, behindWalk, 0)
	}
}

package scope

import (
	"lexicon/api"
)

// tell is a settled area as a Scope.
func (a *area) tell() api.Scope {
	s := api.Scope{Kind: a.kind, At: a.at, Around: -1, Uses: a.uses()}
	if a.around != nil {
		s.Around = a.around.number
	}
	s.Cells = number(s.Uses, api.UseCell, 0)
	s.Frees = number(s.Uses, api.UseFree, s.Cells) - s.Cells
	s.Locals = a.numberLocals(s.Uses) + a.tries
	return s
}

// uses is what the names are, without their Slots. A name that an area hands
// on to one within is free there beside what else it is.
func (a *area) uses() []api.Use {
	var list []api.Use
	for _, name := range a.sorted() {
		f := a.names[name]
		own := a.own(f)
		if f.free && own != api.UseFree {
			list = append(list, api.Use{Name: name, What: api.UseFree})
		}
		list = append(list, api.Use{Name: name, What: own})
	}
	return list
}

// own is what a name is for the area itself.
func (a *area) own(f fact) int {
	switch {
	case f.global || a.kind == api.KindModule:
		return api.UseGlobal
	case f.nonlocal:
		return api.UseFree
	case f.bound && a.kind == api.KindClass:
		return api.UseClass
	case f.cell:
		return api.UseCell
	case f.bound:
		return api.UseLocal
	case f.free:
		return api.UseFree
	}
	return api.UseGlobal
}

// number gives those of one kind the Slots from next on, and tells the one
// behind them.
func number(uses []api.Use, what, next int) int {
	for i := range uses {
		if uses[i].What == what {
			uses[i].Slot = next
			next++
		}
	}
	return next
}

// numberLocals gives the locals their places, and tells how many there are
// with those of Params that are cells.
func (a *area) numberLocals(uses []api.Use) int {
	next := a.params
	for i, use := range uses {
		if use.What != api.UseLocal {
			continue
		}
		if f := a.names[use.Name]; f.param {
			uses[i].Slot = f.place
			continue
		}
		uses[i].Slot = next
		next++
	}
	return next
}

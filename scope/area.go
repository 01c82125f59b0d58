package scope

import (
	"lexicon/api"
	"maps"
	"slices"
)

// area is a scope in the making.
type area struct {
	kind   int
	at     int
	number int
	around *area // nil: the module's
	params int   // places of Params; of a comprehension one
	tries  int
	names  map[string]fact
	said   []declaration // in the order of the tree
}

// fact is what is known of a name in an area.
type fact struct {
	occurs   bool
	first    int // the least At at which it occurs
	bound    bool
	param    bool
	place    int // of a param
	global   bool
	nonlocal bool
	cell     bool // this is its home, for an area within
	free     bool // its home is further out, for this area or for one within
}

// declaration is a name of a Global or a Nonlocal.
type declaration struct {
	name     string
	at       int
	nonlocal bool
	clashes  bool // the other word stands ahead of it
}

func (a *area) occur(name string, at int) {
	f := a.names[name]
	if !f.occurs || at < f.first {
		f.first = at
	}
	f.occurs = true
	a.names[name] = f
}

func (a *area) bind(name string, at int) {
	a.occur(name, at)
	f := a.names[name]
	f.bound = true
	a.names[name] = f
}

// take binds a Param, and tells whether one of that name stands ahead of it.
func (a *area) take(name string, at int) (again bool) {
	a.bind(name, at)
	f := a.names[name]
	again = f.param
	f.param, f.place = true, a.params
	a.names[name] = f
	a.params++
	return again
}

func (a *area) declare(name string, at int, nonlocal bool) {
	f := a.names[name]
	d := declaration{name: name, at: at, nonlocal: nonlocal}
	if nonlocal {
		d.clashes = f.global
		f.nonlocal = true
	} else {
		d.clashes = f.nonlocal
		f.global = true
	}
	a.names[name] = f
	a.said = append(a.said, d)
}

// judge reports what is wrong with declarations: a name may occur behind one
// and have a lesser At, and a home is bound anywhere in its area, so nothing
// of that can be asked while the tree is read.
func (a *area) judge(report func(code, at int)) {
	for _, d := range a.said {
		f := a.names[d.name]
		if f.param || d.clashes || f.occurs && f.first < d.at {
			report(api.FaultGlobal, d.at)
		}
		if d.nonlocal && (a.kind != api.KindDef || a.home(d.name) == nil) {
			report(api.FaultNonlocal, d.at)
		}
	}
}

// home is the area further out of which a name is; nil: there is none.
func (a *area) home(name string) *area {
	out := a.around
	if out == nil || out.owns(name) {
		return out
	}
	return out.home(name)
}

// owns tells whether a name is an area's own, and areas within see it.
func (a *area) owns(name string) bool {
	if a.kind != api.KindDef && a.kind != api.KindComp {
		return false
	}
	f := a.names[name]
	return f.bound && !f.global && !f.nonlocal
}

// settle finds the homes of an area's names, and has the areas up to them know.
func (a *area) settle() {
	for _, name := range a.sorted() {
		f := a.names[name]
		if f.global || f.bound && !f.nonlocal {
			continue
		}
		if home := a.home(name); home != nil {
			a.lead(name, home)
		}
	}
}

// lead marks a name from an area outwards to its home. Where it is marked as
// free, what lies further out has been marked for another area.
func (a *area) lead(name string, home *area) {
	f := a.names[name]
	if a == home {
		f.cell = true
		a.names[name] = f
		return
	}
	if f.free {
		return
	}
	f.free = true
	a.names[name] = f
	a.around.lead(name, home)
}

func (a *area) sorted() []string {
	return slices.Sorted(maps.Keys(a.names))
}

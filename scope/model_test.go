package scope_test

import (
	"cmp"
	"fmt"
	"maps"
	"slices"
	"strings"

	"lexicon/api"
	"lexicon/tree"
)

// The model asks the chapter's words of each node by itself: what it belongs
// to, what it stands in, who else has its name, by looking through all of them.

// part is a node in the order of All, with the number of the one whose Kid it
// is, and which Kid.
type part struct {
	api.Node
	up, nth int
}

// mention is a name that occurs in a scope, or is declared there.
type mention struct {
	scope int
	name  string
	at    int
	bound bool
	param bool
	word  int // of a declaration: NodeGlobal, NodeNonlocal
}

type model struct {
	parts  []part
	scopes []int // the parts that are scopes
	around []int
	occurs []mention
	said   []mention
}

func newModel(n api.Node) *model {
	m := &model{}
	m.flatten(n, -1, 0)
	for i, p := range m.parts {
		if kindOfScope(p.Kind) != 0 {
			m.scopes = append(m.scopes, i)
		}
	}
	for _, i := range m.scopes {
		m.around = append(m.around, m.scopeOf(i))
	}
	for i := range m.parts {
		m.mention(i)
	}
	return m
}

func (m *model) flatten(n api.Node, up, nth int) {
	here := len(m.parts)
	m.parts = append(m.parts, part{n, up, nth})
	for i, kid := range n.Kids {
		m.flatten(kid, here, i)
	}
}

func kindOfScope(kind int) int {
	switch kind {
	case api.NodeModule:
		return api.KindModule
	case api.NodeDef:
		return api.KindDef
	case api.NodeClass:
		return api.KindClass
	case api.NodeListComp, api.NodeSetComp, api.NodeDictComp:
		return api.KindComp
	}
	return 0
}

func (m *model) kind(s int) int { return kindOfScope(m.parts[m.scopes[s]].Kind) }

// scopeOf is the number of the scope that a part belongs to; -1: the module.
func (m *model) scopeOf(i int) int {
	for m.parts[i].up >= 0 {
		nth := m.parts[i].nth
		i = m.parts[i].up
		inside := false
		switch m.kindAt(i) {
		case api.KindModule:
			inside = true
		case api.KindDef:
			inside = nth == len(m.parts[i].Kids)-1
		case api.KindClass:
			inside = nth == 1
		case api.KindComp:
			inside = nth != 2
		}
		if inside {
			return slices.Index(m.scopes, i)
		}
	}
	return -1
}

func (m *model) kindAt(i int) int { return kindOfScope(m.parts[i].Kind) }

func (m *model) mention(i int) {
	p := m.parts[i]
	x := mention{scope: m.scopeOf(i), name: p.Text, at: p.At}
	switch p.Kind {
	case api.NodeName:
		up := m.parts[p.up]
		if up.Kind == api.NodeGlobal || up.Kind == api.NodeNonlocal {
			x.word = up.Kind
			m.said = append(m.said, x)
			return
		}
		x.bound = isTarget(up.Kind, p.nth)
	case api.NodeParam:
		x.scope, x.bound, x.param = slices.Index(m.scopes, p.up), true, true
	case api.NodeDef, api.NodeClass:
		x.bound = true
	case api.NodeExcept:
		if p.Text == "" {
			return
		}
		x.bound = true
	default:
		return
	}
	m.occurs = append(m.occurs, x)
}

// isTarget tells whether something is given to that Kid of a kind.
func isTarget(kind, nth int) bool {
	switch kind {
	case api.NodeAssign, api.NodeUnpack, api.NodeAugment, api.NodeFor, api.NodeDel:
		return nth == 0
	case api.NodeListComp, api.NodeSetComp, api.NodeDictComp:
		return nth == 1
	}
	return kind == api.NodeTargets
}

func (m *model) bound(s int, name string) bool {
	return slices.ContainsFunc(m.occurs, func(x mention) bool { return x.scope == s && x.name == name && x.bound })
}

// declared is the word by which a name is declared in a scope; 0: it is not.
func (m *model) declared(s int, name string) int {
	for _, x := range m.said {
		if x.scope == s && x.name == name {
			return x.word
		}
	}
	return 0
}

// home is looked for as of a name that is not bound in s; -1: there is none.
func (m *model) home(s int, name string) int {
	for s = m.around[s]; s >= 0; s = m.around[s] {
		isFunc := m.kind(s) == api.KindDef || m.kind(s) == api.KindComp
		if isFunc && m.bound(s, name) && m.declared(s, name) == 0 {
			return s
		}
	}
	return -1
}

// stands tells whether a part stands in a Block of one of the kinds, within
// its scope.
func (m *model) stands(i int, kinds ...int) bool {
	for ; kindOfScope(m.parts[i].Kind) == 0; i = m.parts[i].up {
		if m.parts[i].Kind == api.NodeBlock && slices.Contains(kinds, m.parts[m.parts[i].up].Kind) {
			return true
		}
	}
	return false
}

// faults is all of them, the least first.
func (m *model) faults() []api.Fault {
	var list []api.Fault
	for i, p := range m.parts {
		wrong := func(code int, is bool) {
			if is {
				list = append(list, api.Fault{Code: code, At: p.At})
			}
		}
		switch p.Kind {
		case api.NodeDef:
			wrong(api.FaultNames, len(p.Kids)-1 > 1000)
		case api.NodeCall, api.NodeTuple, api.NodeList, api.NodeSet, api.NodeDict, api.NodeTargets:
			wrong(api.FaultNames, len(p.Kids) > 1000)
		case api.NodeParam, api.NodeKeyword:
			wrong(api.FaultTwice, slices.ContainsFunc(m.parts[p.up].Kids[:p.nth], func(n api.Node) bool {
				return n.Kind == p.Kind && n.Text == p.Text
			}))
		case api.NodeBreak, api.NodeContinue:
			wrong(api.FaultLoop, !m.stands(i, api.NodeWhile, api.NodeFor))
		case api.NodeReturn:
			wrong(api.FaultReturn, m.kind(m.scopeOf(i)) != api.KindDef)
		case api.NodeRaise:
			wrong(api.FaultRaise, p.Kids[0].Kind == api.NodeNone && !m.stands(i, api.NodeExcept))
		}
	}
	for i, x := range m.said {
		clash := slices.ContainsFunc(m.occurs, func(y mention) bool {
			return x.scope == y.scope && x.name == y.name && (y.param || y.at < x.at)
		}) || slices.ContainsFunc(m.said[:i], func(y mention) bool {
			return x.scope == y.scope && x.name == y.name && x.word != y.word
		})
		if clash {
			list = append(list, api.Fault{Code: api.FaultGlobal, At: x.at})
		}
		if x.word == api.NodeNonlocal && (m.kind(x.scope) != api.KindDef || m.home(x.scope, x.name) < 0) {
			list = append(list, api.Fault{Code: api.FaultNonlocal, At: x.at})
		}
	}
	slices.SortFunc(list, func(f, g api.Fault) int { return cmp.Or(cmp.Compare(f.At, g.At), f.Code-g.Code) })
	return list
}

// isFree tells whether a name of s is free there, and its home.
func (m *model) isFree(s int, name string) (int, bool) {
	word := m.declared(s, name)
	if word == api.NodeGlobal || word == 0 && m.bound(s, name) {
		return 0, false
	}
	home := m.home(s, name)
	return home, home >= 0
}

// use is a Use without its Slot.
type use struct {
	scope int
	name  string
	what  int
}

// uses is what each name of each scope is; seen are the names of each scope.
func (m *model) uses() map[use]bool {
	seen := map[use]bool{}
	for _, x := range append(slices.Clone(m.occurs), m.said...) {
		seen[use{x.scope, x.name, 0}] = true
	}
	got := map[use]bool{}
	isHome := map[use]bool{}
	for x := range seen {
		if home, free := m.isFree(x.scope, x.name); free {
			isHome[use{home, x.name, 0}] = true
			for s := x.scope; s != home; s = m.around[s] {
				got[use{s, x.name, api.UseFree}] = true
			}
		}
	}
	for x := range seen {
		got[use{x.scope, x.name, m.what(x, isHome[x])}] = true
	}
	return got
}

func (m *model) what(x use, isHome bool) int {
	kind, word := m.kind(x.scope), m.declared(x.scope, x.name)
	_, free := m.isFree(x.scope, x.name)
	switch {
	case word == api.NodeGlobal || kind == api.KindModule:
		return api.UseGlobal
	case word == api.NodeNonlocal:
		return api.UseFree
	case m.bound(x.scope, x.name) && kind == api.KindClass:
		return api.UseClass
	case m.bound(x.scope, x.name) && isHome:
		return api.UseCell
	case m.bound(x.scope, x.name):
		return api.UseLocal
	case free:
		return api.UseFree
	}
	return api.UseGlobal
}

// modelScopes is what Scopes is to answer.
func modelScopes(n api.Node) ([]api.Scope, api.Fault) {
	if tree.Check(n) != api.OK {
		return nil, api.Fault{Code: api.FaultSyntax}
	}
	m := newModel(n)
	if list := m.faults(); len(list) > 0 {
		return nil, list[0]
	}
	got := slices.SortedFunc(maps.Keys(m.uses()), func(x, y use) int {
		return cmp.Or(cmp.Compare(x.name, y.name), cmp.Compare(x.what, y.what))
	})
	var list []api.Scope
	for s, i := range m.scopes {
		told := api.Scope{Kind: m.kind(s), At: m.parts[i].At, Around: m.around[s]}
		for _, x := range got {
			if x.scope == s {
				told.Uses = append(told.Uses, api.Use{Name: x.name, What: x.what})
			}
		}
		m.number(s, &told)
		list = append(list, told)
	}
	return list, api.Fault{}
}

// number gives a scope's Uses their Slots.
func (m *model) number(s int, told *api.Scope) {
	var params, cells, frees, locals []string
	for _, x := range m.occurs {
		if x.scope == s && x.param {
			params = append(params, x.name)
		}
	}
	if told.Kind == api.KindComp {
		params = []string{".0"}
	}
	for _, u := range told.Uses {
		switch {
		case u.What == api.UseCell:
			cells = append(cells, u.Name)
		case u.What == api.UseFree:
			frees = append(frees, u.Name)
		case u.What == api.UseLocal && !slices.Contains(params, u.Name):
			locals = append(locals, u.Name)
		}
	}
	for i, u := range told.Uses {
		switch u.What {
		case api.UseCell, api.UseFree:
			row := append(slices.Clone(cells), frees...)
			told.Uses[i].Slot = slices.Index(row, u.Name)
		case api.UseLocal:
			told.Uses[i].Slot = slices.Index(append(slices.Clone(params), locals...), u.Name)
		}
	}
	told.Cells, told.Frees, told.Locals = len(cells), len(frees), len(params)+len(locals)
	for i, p := range m.parts {
		if p.Kind == api.NodeTry && m.scopeOf(i) == s {
			told.Locals++
		}
	}
}

// told is what came of a call: of each scope its kind, At and Around, how many
// Locals, Cells and Frees it has, and what its names are.
func told(list []api.Scope, f api.Fault) string {
	if f != (api.Fault{}) {
		if len(list) > 0 {
			return "scopes beside a fault"
		}
		return fmt.Sprint("fault ", f.Code, " ", f.At)
	}
	var lines []string
	for _, s := range list {
		line := fmt.Sprintf("%s@%d<%d %d %d %d:", scopeNames[s.Kind], s.At, s.Around, s.Locals, s.Cells, s.Frees)
		for _, u := range s.Uses {
			line += " " + u.Name + " " + whatNames[u.What]
			if u.Slot != 0 || u.What < api.UseGlobal {
				line += fmt.Sprint(" ", u.Slot)
			}
			line += ","
		}
		lines = append(lines, strings.TrimRight(line, ",:"))
	}
	return strings.Join(lines, "; ")
}

var (
	scopeNames = []string{"?", "Module", "Def", "Class", "Comp"}
	whatNames  = []string{"?", "local", "cell", "free", "global", "class"}
)

package scope

import (
	"lexicon/api"
)

// reader goes through a tree, gathers its areas, and reports the faults that
// can be told at a node.
type reader struct {
	report func(code, at int)
	areas  []*area
}

// setting is what a part stands in: its area, and the Blocks within that area
// that allow a Break, a bare Raise.
type setting struct {
	area   *area
	loop   bool
	except bool
}

func (r *reader) open(kind int, n *api.Node, around *area) setting {
	a := &area{kind: kind, at: n.At, number: len(r.areas), around: around, names: map[string]fact{}}
	r.areas = append(r.areas, a)
	return setting{area: a}
}

func (r *reader) module(n *api.Node) {
	r.parts(n.Kids, r.open(api.KindModule, n, nil))
}

func (r *reader) parts(list []api.Node, in setting) {
	for i := range list {
		r.part(&list[i], in)
	}
}

// part reads any node but the module. A loop and an Except allow their
// statements in all their Kids, since those that are no Block hold none.
func (r *reader) part(n *api.Node, in setting) {
	switch n.Kind {
	case api.NodeName:
		in.area.occur(n.Text, n.At)
	case api.NodeAssign, api.NodeUnpack, api.NodeAugment, api.NodeDel:
		r.giving(n, in)
	case api.NodeBreak, api.NodeContinue, api.NodeReturn, api.NodeRaise:
		r.leaving(n, in)
	case api.NodeGlobal, api.NodeNonlocal:
		declare(n, in.area)
	case api.NodeWhile:
		in.loop = true
		r.parts(n.Kids, in)
	case api.NodeFor:
		in.loop = true
		r.giving(n, in)
	case api.NodeDef:
		r.def(n, in)
	case api.NodeClass:
		r.class(n, in)
	case api.NodeTry:
		in.area.tries++
		r.parts(n.Kids, in)
	case api.NodeExcept:
		in.except = true
		r.except(n, in)
	case api.NodeListComp, api.NodeSetComp, api.NodeDictComp:
		r.comp(n, in)
	case api.NodeCall:
		r.many(n, len(n.Kids))
		r.keywords(n.Kids)
		r.parts(n.Kids, in)
	case api.NodeTuple, api.NodeList, api.NodeSet, api.NodeDict:
		r.many(n, len(n.Kids))
		r.parts(n.Kids, in)
	default:
		r.parts(n.Kids, in)
	}
}

// giving reads a statement whose first Kid is given something.
func (r *reader) giving(n *api.Node, in setting) {
	r.target(&n.Kids[0], in)
	r.parts(n.Kids[1:], in)
}

// target reads a target or Targets; names within an Attr, an Index are none.
func (r *reader) target(n *api.Node, in setting) {
	switch n.Kind {
	case api.NodeName:
		in.area.bind(n.Text, n.At)
	case api.NodeTargets:
		r.many(n, len(n.Kids))
		for i := range n.Kids {
			r.target(&n.Kids[i], in)
		}
	default:
		r.part(n, in)
	}
}

// leaving reads a statement that leaves a loop, a Def, or all there is.
func (r *reader) leaving(n *api.Node, in setting) {
	switch {
	case n.Kind == api.NodeReturn:
		if in.area.kind != api.KindDef {
			r.report(api.FaultReturn, n.At)
		}
	case n.Kind == api.NodeRaise:
		if n.Kids[0].Kind == api.NodeNone && !in.except {
			r.report(api.FaultRaise, n.At)
		}
	case !in.loop:
		r.report(api.FaultLoop, n.At)
	}
	r.parts(n.Kids, in)
}

func declare(n *api.Node, a *area) {
	for _, name := range n.Kids {
		a.declare(name.Text, name.At, n.Kind == api.NodeNonlocal)
	}
}

// def reads the defaults in the area around, each at its place among the
// Params: so the scopes in them get their numbers in the order of the tree.
func (r *reader) def(n *api.Node, in setting) {
	last := len(n.Kids) - 1
	r.many(n, last)
	in.area.bind(n.Text, n.At)
	inner := r.open(api.KindDef, n, in.area)
	for i := range last {
		param := &n.Kids[i]
		if inner.area.take(param.Text, param.At) {
			r.report(api.FaultTwice, param.At)
		}
		r.parts(param.Kids, in)
	}
	r.part(&n.Kids[last], inner)
}

func (r *reader) class(n *api.Node, in setting) {
	in.area.bind(n.Text, n.At)
	inner := r.open(api.KindClass, n, in.area)
	r.part(&n.Kids[0], in)
	r.part(&n.Kids[1], inner)
}

func (r *reader) except(n *api.Node, in setting) {
	if n.Text != "" {
		in.area.bind(n.Text, n.At)
	}
	r.parts(n.Kids, in)
}

func (r *reader) comp(n *api.Node, in setting) {
	inner := r.open(api.KindComp, n, in.area)
	inner.area.params = 1 // what it goes through
	r.part(&n.Kids[0], inner)
	r.target(&n.Kids[1], inner)
	r.part(&n.Kids[2], in)
	r.parts(n.Kids[3:], inner)
}

func (r *reader) many(n *api.Node, count int) {
	if count > api.MaxNames {
		r.report(api.FaultNames, n.At)
	}
}

// keywords reports each Keyword whose name another one ahead of it has.
func (r *reader) keywords(list []api.Node) {
	seen := map[string]int{}
	for _, n := range list {
		if n.Kind != api.NodeKeyword {
			continue
		}
		if seen[n.Text] > 0 {
			r.report(api.FaultTwice, n.At)
		}
		seen[n.Text]++
	}
}

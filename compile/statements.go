package compile

import (
	"lexicon/api"
)

// setting is what a statement stands in, within its function.
type setting struct {
	loop   *loop // the innermost one
	open   int   // first Blocks of Trys
	caught int   // the place of the Try of the innermost Except's Block
}

// opened is the setting of a Try's first Block.
func (in setting) opened() setting {
	in.open++
	return in
}

// loop is what a Break, a Continue has to know.
type loop struct {
	top   *place
	end   *place
	open  int  // first Blocks of Trys around it
	walks bool // it is a For: what it goes through lies on the stack
}

func (w *writer) block(n *part, in setting) {
	for i := range n.kids {
		w.statement(n.kid(i), in)
	}
}

// statement lays nothing of a Pass, a Global, a Nonlocal.
func (w *writer) statement(n *part, in setting) {
	switch n.kind {
	case api.NodeExpr:
		w.expression(n.kid(0))
		w.plain(api.OpPop)
	case api.NodeAssign, api.NodeUnpack:
		w.expression(n.kid(1))
		w.give(n.kid(0))
	case api.NodeAugment:
		w.augment(n)
	case api.NodeDel:
		w.del(n.kid(0))
	case api.NodeBreak, api.NodeContinue, api.NodeReturn, api.NodeRaise:
		w.leave(n, in)
	case api.NodeIf:
		w.ifElse(n, in)
	case api.NodeWhile:
		w.while(n, in)
	case api.NodeFor:
		w.forIn(n, in)
	case api.NodeDef:
		w.defStatement(n)
	case api.NodeClass:
		w.classStatement(n)
	case api.NodeTry:
		w.try(n, in)
	}
}

// give lays what gives the value on the stack to a target, or to Targets.
func (w *writer) give(n *part) {
	switch n.kind {
	case api.NodeName:
		w.store(n.text)
	case api.NodeAttr:
		w.expression(n.kid(0))
		w.named(api.OpSetAttr, n.text)
	case api.NodeIndex:
		w.expressions(n.kids)
		w.plain(api.OpSetIndex)
	case api.NodeTargets:
		w.lay(api.OpUnpack, len(n.kids), 0)
		for i := range n.kids {
			w.give(n.kid(i))
		}
	}
}

func (w *writer) augment(n *part) {
	target := n.kid(0)
	operate := func() {
		w.expression(n.kid(1))
		w.lay(api.OpBinary, operator(n.text), 0)
	}
	switch target.kind {
	case api.NodeName:
		w.load(target.text)
		operate()
		w.store(target.text)
	case api.NodeAttr:
		w.expression(target.kid(0))
		w.plain(api.OpDup)
		w.named(api.OpLoadAttr, target.text)
		operate()
		w.plain(api.OpSwap)
		w.named(api.OpSetAttr, target.text)
	case api.NodeIndex:
		w.expressions(target.kids)
		w.plain(api.OpDup2)
		w.plain(api.OpLoadIndex)
		operate()
		w.plain(api.OpTurn)
		w.plain(api.OpSetIndex)
	}
}

func (w *writer) del(target *part) {
	switch target.kind {
	case api.NodeName:
		w.remove(target.text)
	case api.NodeAttr:
		w.expression(target.kid(0))
		w.named(api.OpDelAttr, target.text)
	case api.NodeIndex:
		w.expressions(target.kids)
		w.plain(api.OpDelIndex)
	}
}

// leave is of what goes on elsewhere, or nowhere, in its function.
func (w *writer) leave(n *part, in setting) {
	switch n.kind {
	case api.NodeBreak:
		w.closeTries(in)
		if in.loop.walks {
			w.plain(api.OpPop)
		}
		w.lead(api.OpJump, in.loop.end)
	case api.NodeContinue:
		w.closeTries(in)
		w.lead(api.OpJump, in.loop.top)
	case api.NodeReturn:
		if n.kid(0).kind == api.NodeNone {
			w.constant(none())
		} else {
			w.expression(n.kid(0))
		}
		w.plain(api.OpReturn)
	case api.NodeRaise:
		if n.kid(0).kind == api.NodeNone {
			w.lay(api.OpLoadLocal, in.caught, 0)
		} else {
			w.expression(n.kid(0))
		}
		w.plain(api.OpRaise)
	}
}

func (w *writer) closeTries(in setting) {
	for range in.open - in.loop.open {
		w.plain(api.OpEndTry)
	}
}

func (w *writer) ifElse(n *part, in setting) {
	otherwise := &place{}
	w.expression(n.kid(0))
	w.lead(api.OpIfNot, otherwise)
	w.block(n.kid(1), in)
	if n.kid(2).kind == api.NodeNone {
		w.land(otherwise)
		return
	}
	end := &place{}
	defer w.land(end)
	w.lead(api.OpJump, end)
	w.land(otherwise)
	w.block(n.kid(2), in)
}

func (w *writer) while(n *part, in setting) {
	in.loop = &loop{top: w.here(), end: &place{}, open: in.open}
	defer w.land(in.loop.end)
	w.expression(n.kid(0))
	w.lead(api.OpIfNot, in.loop.end)
	w.block(n.kid(1), in)
	w.lead(api.OpJump, in.loop.top)
}

func (w *writer) forIn(n *part, in setting) {
	w.expression(n.kid(1))
	w.plain(api.OpIter)
	in.loop = &loop{top: w.here(), end: &place{}, open: in.open, walks: true}
	defer w.land(in.loop.end)
	w.lead(api.OpNext, in.loop.end)
	w.give(n.kid(0))
	w.block(n.kid(2), in)
	w.lead(api.OpJump, in.loop.top)
}

func (w *writer) defStatement(n *part) {
	defaults := 0
	for _, param := range n.params() {
		if param.hasDefault() {
			w.expression(param.kid(0))
			defaults++
		}
	}
	w.within(n, defaults)
	w.store(n.text)
}

func (w *writer) classStatement(n *part) {
	bases := 0
	if n.kid(0).kind != api.NodeNone {
		w.expression(n.kid(0))
		bases = 1
	}
	w.within(n, 0)
	w.lay(api.OpClass, w.lists.name(n.text), bases)
	w.store(n.text)
}

func (w *writer) try(n *part, in setting) {
	handlers, end := &place{}, &place{}
	defer w.land(end)
	at := w.newTry()
	w.lead(api.OpTry, handlers)
	w.block(n.kid(0), in.opened())
	w.plain(api.OpEndTry)
	w.lead(api.OpJump, end)
	w.land(handlers)
	w.lay(api.OpStoreLocal, at, 0)
	in.caught = at
	for i := range n.kids[1:] {
		w.except(n.kid(1+i), in, end)
	}
	if n.last().kid(0).kind != api.NodeNone {
		w.lay(api.OpLoadLocal, at, 0)
		w.plain(api.OpRaise)
	}
}

// except lays what is gone past, if what was raised is not of its class.
func (w *writer) except(n *part, in setting, end *place) {
	if n.kid(0).kind != api.NodeNone {
		next := &place{}
		defer w.land(next)
		w.lay(api.OpLoadLocal, in.caught, 0)
		w.expression(n.kid(0))
		w.plain(api.OpMatch)
		w.lead(api.OpIfNot, next)
	}
	if n.text != "" {
		w.lay(api.OpLoadLocal, in.caught, 0)
		w.store(n.text)
	}
	w.block(n.kid(1), in)
	w.lead(api.OpJump, end)
}

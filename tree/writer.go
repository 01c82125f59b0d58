package tree

import (
	"strings"

	"lexicon/api"
)

// A writer gathers the text of a tree that Check has taken. What lays a kind
// is one of its methods, bound to it.
type writer struct {
	text   strings.Builder
	blanks int // ahead of each line of the Block that is being laid
}

func (w *writer) put(parts ...string) {
	for _, part := range parts {
		w.text.WriteString(part)
	}
}

func (w *writer) block(n api.Node) {
	for _, kid := range n.Kids {
		w.begin()
		w.statement(kid)
	}
}

// begin begins a line.
func (w *writer) begin() {
	w.put(strings.Repeat(" ", w.blanks))
}

func (w *writer) statement(n api.Node) {
	if lay := w.compound(n.Kind); lay != nil {
		lay(n)
		return
	}
	w.simple(n.Kind)(n)
	w.put("\n")
}

// compound finds what lays a statement with Blocks; there is nothing of any
// other one.
func (w *writer) compound(kind int) func(api.Node) {
	switch kind {
	case api.NodeIf:
		return w.ifElse
	case api.NodeWhile:
		return w.while
	case api.NodeFor:
		return w.forIn
	case api.NodeDef:
		return w.def
	case api.NodeClass:
		return w.class
	case api.NodeTry:
		return w.try
	}
	return nil
}

// simple finds what lays a statement of one line.
func (w *writer) simple(kind int) func(api.Node) {
	switch kind {
	case api.NodeAssign, api.NodeUnpack:
		return w.assign
	case api.NodeAugment:
		return w.augment
	case api.NodeDel:
		return w.del
	case api.NodePass, api.NodeBreak, api.NodeContinue:
		return w.word
	case api.NodeReturn, api.NodeRaise:
		return w.leave
	case api.NodeGlobal, api.NodeNonlocal:
		return w.declare
	}
	return w.alone
}

func (w *writer) alone(n api.Node) { w.part(n.Kids[0]) }

func (w *writer) assign(n api.Node) {
	w.part(n.Kids[0])
	w.put(" = ")
	w.part(n.Kids[1])
}

func (w *writer) augment(n api.Node) {
	w.part(n.Kids[0])
	w.put(" ", n.Text, "= ")
	w.part(n.Kids[1])
}

func (w *writer) del(n api.Node) {
	w.put("del ")
	w.part(n.Kids[0])
}

func (w *writer) word(n api.Node) { w.put(wordOf(n.Kind)) }

func (w *writer) leave(n api.Node) {
	w.word(n)
	if !isNone(n.Kids[0]) {
		w.put(" ")
		w.part(n.Kids[0])
	}
}

func (w *writer) declare(n api.Node) {
	w.word(n)
	w.put(" ")
	w.parts(n.Kids)
}

// inner ends a head, and lays the Block that stands behind it.
func (w *writer) inner(n api.Node) {
	w.put(":\n")
	w.blanks++
	w.block(n)
	w.blanks--
}

func (w *writer) ifElse(n api.Node) {
	w.put("if ")
	w.part(n.Kids[0])
	w.inner(n.Kids[1])
	if !isNone(n.Kids[2]) {
		w.begin()
		w.put("else")
		w.inner(n.Kids[2])
	}
}

func (w *writer) while(n api.Node) {
	w.put("while ")
	w.part(n.Kids[0])
	w.inner(n.Kids[1])
}

func (w *writer) forIn(n api.Node) {
	w.put("for ")
	w.part(n.Kids[0])
	w.put(" in ")
	w.part(n.Kids[1])
	w.inner(n.Kids[2])
}

func (w *writer) def(n api.Node) {
	last := len(n.Kids) - 1
	w.put("def ", n.Text)
	w.enclose("(", n.Kids[:last], ")")
	w.inner(n.Kids[last])
}

func (w *writer) class(n api.Node) {
	w.put("class ", n.Text)
	if !isNone(n.Kids[0]) {
		w.enclose("(", n.Kids[:1], ")")
	}
	w.inner(n.Kids[1])
}

func (w *writer) try(n api.Node) {
	w.put("try")
	w.inner(n.Kids[0])
	for _, kid := range n.Kids[1:] {
		w.begin()
		w.except(kid)
	}
}

func (w *writer) except(n api.Node) {
	w.put("except")
	if !isNone(n.Kids[0]) {
		w.put(" ")
		w.part(n.Kids[0])
	}
	if n.Text != "" {
		w.put(" as ", n.Text)
	}
	w.inner(n.Kids[1])
}

// wordOf is what a kind is written with, where that hangs on the kind alone.
func wordOf(kind int) string {
	switch kind {
	case api.NodePass:
		return "pass"
	case api.NodeBreak:
		return "break"
	case api.NodeContinue:
		return "continue"
	case api.NodeReturn:
		return "return"
	case api.NodeRaise:
		return "raise"
	case api.NodeGlobal:
		return "global"
	case api.NodeNonlocal:
		return "nonlocal"
	case api.NodeOr:
		return "or"
	case api.NodeAnd:
		return "and"
	case api.NodeNot:
		return "not "
	case api.NodeNegative:
		return "-"
	}
	return ""
}

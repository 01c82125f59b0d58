package parser

import (
	"lexicon/api"
	"lexicon/lexer"
	"lexicon/tree"
)

// offence is what a reader gives up with.
type offence api.Fault

// reader is a way through tokens.
type reader struct {
	tokens []api.Token
	at     int // the number of the one that is looked at
}

// read is the tree of tokens, or what offends in them.
func read(tokens []api.Token) (root api.Node, fault api.Fault) {
	defer func() {
		if why, ok := recover().(offence); ok {
			root, fault = api.Node{}, api.Fault(why)
		}
	}()
	r := &reader{tokens: tokens}
	root = *r.module()
	refuseDeep(root, 0)
	return root, api.Fault{}
}

// refuseDeep gives up at the first node that stands within too many others.
// Nothing below that one is gone through, however deep the tree is.
func refuseDeep(n api.Node, within int) {
	if within == api.MaxTree {
		giveUp(api.FaultDeep, n.At)
	}
	for _, kid := range n.Kids {
		refuseDeep(kid, within+1)
	}
}

func giveUp(code, at int) {
	panic(offence{Code: code, At: at})
}

// refuse gives up at the token that is looked at.
func (r *reader) refuse() {
	giveUp(api.FaultSyntax, r.look().At)
}

func (r *reader) look() api.Token { return r.ahead(0) }

// ahead is a token so many behind the one that is looked at. Behind the last
// one an end stands, at its place.
func (r *reader) ahead(by int) api.Token {
	if i := r.at + by; i < len(r.tokens) {
		return r.tokens[i]
	}
	end := api.Token{Kind: api.TokenEnd}
	if last := len(r.tokens) - 1; last >= 0 {
		end.At = r.tokens[last].At
	}
	return end
}

// skip goes on to the next token, and tells the one that it leaves.
func (r *reader) skip() api.Token {
	left := r.look()
	r.at++
	return left
}

// isMark tells whether a token is a word or a sign of that text: by its kind
// too, since a Str may say the same, and tokens may come from anywhere.
func isMark(t api.Token, text string) bool {
	if t.Text != text {
		return false
	}
	if lexer.Word(text) {
		return t.Kind == api.TokenWord
	}
	return t.Kind == api.TokenSign
}

// sees tells whether one of these words and signs is looked at.
func (r *reader) sees(texts ...string) bool {
	t := r.look()
	for _, text := range texts {
		if isMark(t, text) {
			return true
		}
	}
	return false
}

// takes skips a word or a sign, if it is there.
func (r *reader) takes(text string) bool {
	if !r.sees(text) {
		return false
	}
	r.at++
	return true
}

// need skips a word or a sign that must be there.
func (r *reader) need(text string) {
	if !r.takes(text) {
		r.refuse()
	}
}

// needKind skips a token of a kind that must be there.
func (r *reader) needKind(kind int) api.Token {
	if r.look().Kind != kind {
		r.refuse()
	}
	return r.skip()
}

// name skips a name that must be there.
func (r *reader) name() api.Token {
	if !tree.IsName(r.look().Text) {
		r.refuse()
	}
	return r.needKind(api.TokenName)
}

// node is one without a Text. Rows hand pointers on: a node has many words, and
// a bracket within brackets has a call of every row on the stack.
func node(kind, at int, kids ...*api.Node) *api.Node {
	n := &api.Node{Kind: kind, At: at}
	if len(kids) > 0 {
		n.Kids = make([]api.Node, len(kids))
	}
	for i, kid := range kids {
		n.Kids[i] = *kid
	}
	return n
}

// named is one with a Text.
func named(kind int, text string, at int, kids ...*api.Node) *api.Node {
	n := node(kind, at, kids...)
	n.Text = text
	return n
}

// none stands where something is missing.
func none(at int) *api.Node { return node(api.NodeNone, at) }

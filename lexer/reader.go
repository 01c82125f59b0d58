package lexer

import (
	"lexicon/api"
	"lexicon/letters"
)

// over stands for a byte where the source has no more.
const over = -1

// offence is what a reader gives up with.
type offence api.Fault

// reader is a way through a source.
type reader struct {
	src    string
	at     int   // the byte that is looked at
	open   int   // brackets: which ones they are is never asked
	blocks []int // the depths of those that are open, and the 0 ahead of them
	tokens []api.Token
}

// read is the tokens of a source, or what offends in it.
func read(src string) (tokens []api.Token, fault api.Fault) {
	defer func() {
		if why, ok := recover().(offence); ok {
			tokens, fault = nil, api.Fault(why)
		}
	}()
	r := &reader{src: src, blocks: []int{0}}
	r.run()
	return r.tokens, api.Fault{}
}

// run reads the source to its end.
func (r *reader) run() {
	var begin int

line: // with no bracket open
	begin = r.at
	r.pass()
	switch r.look() {
	case over:
		goto end
	case '\n': // no Newline: the line has nothing but blanks and a remark
		r.at++
		goto line
	}
	r.settle(r.at - begin)

next:
	r.pass()
	switch c := r.look(); {
	case c == over:
		goto end
	case c == '\n':
		goto newline
	case c == '\'' || c == '"':
		goto quoted
	case isDigit(c):
		goto number
	case isPart(c):
		goto name
	default:
		goto sign
	}

name:
	r.name()
	goto next

number:
	r.number()
	goto next

quoted:
	r.quoted()
	goto next

sign:
	r.sign()
	goto next

newline: // pass leaves it where no bracket is open
	r.put(api.TokenNewline, "", 1)
	goto line

end:
	r.finish()
}

// look is the byte that is looked at.
func (r *reader) look() int {
	if r.at == len(r.src) {
		return over
	}
	return int(r.src[r.at])
}

// pass goes to the next byte that is neither a blank, nor of a remark, nor a
// line's end within brackets.
func (r *reader) pass() {
	for {
		switch c := r.look(); {
		case c == '#':
			r.passRemark()
		case c == ' ', c == '\n' && r.open > 0:
			r.at++
		default:
			return
		}
	}
}

func (r *reader) passRemark() {
	for c := r.look(); c != over && c != '\n'; c = r.look() {
		r.at++
	}
}

// put adds a token that begins at the byte that is looked at, and goes on
// behind it.
func (r *reader) put(kind int, text string, size int) {
	r.tokens = append(r.tokens, api.Token{Kind: kind, Text: text, At: r.at})
	r.at += size
}

// offend gives up, at the byte that is looked at.
func (r *reader) offend(code int) {
	panic(offence{Code: code, At: r.at})
}

// settle opens or closes blocks, for a line with so many blanks.
func (r *reader) settle(depth int) {
	if depth > r.depth() {
		if len(r.blocks)-1 == api.MaxIndent {
			r.offend(api.FaultDeep)
		}
		r.blocks = append(r.blocks, depth)
		r.put(api.TokenIndent, "", 0)
		return
	}
	for depth < r.depth() {
		r.dedent()
	}
	if depth != r.depth() {
		r.offend(api.FaultIndent)
	}
}

// depth is that of the innermost block.
func (r *reader) depth() int {
	return r.blocks[len(r.blocks)-1]
}

// dedent closes the innermost block.
func (r *reader) dedent() {
	r.blocks = r.blocks[:len(r.blocks)-1]
	r.put(api.TokenDedent, "", 0)
}

// parts is all letters, digits and _ that stand from here on.
func (r *reader) parts() string {
	end := r.at
	for end < len(r.src) && isPart(int(r.src[end])) {
		end++
	}
	return r.src[r.at:end]
}

func (r *reader) name() {
	text := r.parts()
	kind := api.TokenName
	if Word(text) {
		kind = api.TokenWord
	}
	r.put(kind, text, len(text))
}

func (r *reader) number() {
	text := r.parts()
	if !isNumber(text) {
		r.offend(api.FaultNumber)
	}
	r.put(api.TokenInt, text, len(text))
}

func (r *reader) quoted() {
	said, size, err := letters.Unquote(r.src[r.at:])
	if err != api.OK {
		r.offend(api.FaultStr)
	}
	r.put(api.TokenStr, said, size)
}

func (r *reader) sign() {
	text := signAt(r.src[r.at:])
	switch text {
	case "":
		r.offend(api.FaultByte)
	case "(", "[", "{":
		if r.open == api.MaxNest {
			r.offend(api.FaultDeep)
		}
		r.open++
	case ")", "]", "}":
		r.open = max(r.open-1, 0)
	}
	r.put(api.TokenSign, text, len(text))
}

// finish ends the last line, if the source does not, and all blocks. No Indent
// and no Dedent is the last token here: each has its line's first one behind it.
func (r *reader) finish() {
	if last := len(r.tokens) - 1; last >= 0 && r.tokens[last].Kind != api.TokenNewline {
		r.put(api.TokenNewline, "", 0)
	}
	for r.depth() > 0 {
		r.dedent()
	}
	r.put(api.TokenEnd, "", 0)
}

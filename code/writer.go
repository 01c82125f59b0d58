package code

import (
	"strconv"
	"strings"

	"lexicon/api"
	"lexicon/letters"
	"lexicon/whole"
)

// A writer gathers the text of a program that Verify has taken.
type writer struct {
	text      strings.Builder
	program   api.Program
	constants []string // their texts, as far as they were asked for
}

func (w *writer) line(words ...string) {
	w.text.WriteString(strings.Join(words, " "))
	w.text.WriteByte('\n')
}

func (w *writer) function(f api.Func) {
	words := []string{kindWord(f.Kind)}
	if f.Name != "" {
		words = append(words, f.Name)
	}
	words = append(words, strconv.Itoa(f.Params), strconv.Itoa(f.Defaults))
	if f.Rest {
		words = append(words, "rest")
	}
	w.line(append(words, strconv.Itoa(f.Cells), strconv.Itoa(f.Frees))...)
	for at, i := range f.Code {
		w.instruction(at, i)
	}
}

func kindWord(kind int) string {
	switch kind {
	case api.KindModule:
		return "module"
	case api.KindDef:
		return "def"
	case api.KindClass:
		return "class"
	}
	return "comp"
}

func (w *writer) instruction(at int, i api.Instr) {
	r := rowOf(i)
	words := []string{"", strconv.Itoa(at), r.name}
	if r.a != nothing {
		words = append(words, w.told(r.a, i.A))
	}
	if r.b != nothing {
		words = append(words, w.told(r.b, i.B))
	}
	w.line(words...)
}

// told is what stands for a part.
func (w *writer) told(p part, n int) string {
	switch p {
	case aConstant:
		return w.constant(n)
	case aName:
		return w.program.Names[n]
	}
	return strconv.Itoa(n)
}

// constant makes each text once: the digits of a great number take their time,
// and many instructions may tell it.
func (w *writer) constant(n int) string {
	if w.constants[n] == "" {
		w.constants[n] = constantText(w.program.Consts[n])
	}
	return w.constants[n]
}

func constantText(c api.Const) string {
	switch c.Kind {
	case api.ValNone:
		return "None"
	case api.ValBool:
		if c.Bool {
			return "True"
		}
		return "False"
	case api.ValInt:
		return whole.Text(c.Num)
	}
	return letters.Quote(c.Text)
}

package store

import (
	"lexicon/api"
	"lexicon/letters"
)

// draft is terms that are looked at, ahead of anything being made of them: a
// Meter that has counted could not be turned back.
type draft struct {
	terms []api.Term
	most  int          // pairs that a dictionary may have
	first []int        // of each term so far: the first one that is alike
	known map[mark]int // that one, by what it is
}

// mark is what a simple key is: those that are alike have one mark.
type mark struct {
	kind   int
	text   string
	number int // of an instance's term
}

// refuse is why nothing can be made of terms.
func refuse(terms []api.Term, most int) api.Errno {
	d := draft{terms: terms, most: most, known: map[mark]int{}}
	for i := range terms {
		if e := d.refuse(i); e != api.OK {
			return e
		}
		d.note(i)
	}
	return api.OK
}

// refuse is why there can be no such term; those ahead of it are right.
func (d *draft) refuse(i int) api.Errno {
	t := d.terms[i]
	switch {
	case !isBuilt(t.Kind):
		return api.ErrKind
	case !d.areNumbers(i) || !d.fits(t):
		return api.ErrArg
	case d.isGreat(t):
		return api.ErrBig
	}
	return api.OK
}

// isBuilt tells whether terms may be of a kind.
func isBuilt(kind int) bool {
	switch kind {
	case api.ValInstance, api.ValKeys, api.ValValues, api.ValItems:
		return true
	}
	return api.ValNone <= kind && kind <= api.ValFrozen
}

// areNumbers tells whether a term's Kids are numbers of those that it may
// have.
func (d *draft) areNumbers(i int) bool {
	end := i
	if d.terms[i].Kind == api.ValList {
		end = len(d.terms)
	}
	for _, kid := range d.terms[i].Kids {
		if kid < 0 || kid >= end {
			return false
		}
	}
	return true
}

// fits tells whether a term has a text and Kids as its kind has them; the Kids
// are numbers of terms.
func (d *draft) fits(t api.Term) bool {
	switch t.Kind {
	case api.ValTuple, api.ValList:
		return true
	case api.ValDict:
		return len(t.Kids)%2 == 0 && d.areKeys(keysOf(t))
	case api.ValSet, api.ValFrozen:
		return d.areKeys(keysOf(t))
	case api.ValKeys, api.ValValues, api.ValItems:
		return len(t.Kids) == 1 && d.terms[t.Kids[0]].Kind == api.ValDict
	case api.ValStr:
		return len(t.Kids) == 0 && letters.Good(t.Text)
	}
	return len(t.Kids) == 0
}

// isGreat tells whether a term is beyond a limit.
func (d *draft) isGreat(t api.Term) bool {
	switch t.Kind {
	case api.ValInt:
		_, e := formed(t.Num)
		return e != api.OK
	case api.ValStr:
		return letters.Len(t.Text) > api.MaxText
	case api.ValTuple, api.ValList:
		return len(t.Kids) > api.MaxItems
	case api.ValDict, api.ValSet, api.ValFrozen:
		return d.isCrowded(keysOf(t))
	}
	return false
}

// areKeys tells whether terms are simple keys, all of them.
func (d *draft) areKeys(numbers []int) bool {
	for _, number := range numbers {
		if !isKey(d.terms[number]) {
			return false
		}
	}
	return true
}

// isCrowded tells whether keys are too many for a dictionary.
func (d *draft) isCrowded(keys []int) bool {
	if len(keys) <= d.most {
		return false
	}
	unlike := map[int]struct{}{}
	for _, key := range keys {
		unlike[d.first[key]] = struct{}{}
	}
	return len(unlike) > d.most
}

// note keeps what a term is, for those that have it as a key.
func (d *draft) note(i int) {
	first := i
	if isKey(d.terms[i]) {
		m := markOf(i, d.terms[i])
		if known, ok := d.known[m]; ok {
			first = known
		} else {
			d.known[m] = i
		}
	}
	d.first = append(d.first, first)
}

// keysOf is the keys of a dict, the elements of a set.
func keysOf(t api.Term) []int {
	if t.Kind != api.ValDict {
		return t.Kids
	}
	var keys []int
	for i := 0; i < len(t.Kids); i += 2 {
		keys = append(keys, t.Kids[i])
	}
	return keys
}

// isKey tells whether a term is a simple key.
func isKey(t api.Term) bool {
	if t.Kind == api.ValInstance {
		return t.Hash || !t.Same
	}
	return api.ValNone <= t.Kind && t.Kind <= api.ValStr
}

// markOf is the mark of a simple key.
func markOf(i int, t api.Term) mark {
	switch t.Kind {
	case api.ValNone:
		return mark{kind: api.ValNone}
	case api.ValBool:
		return mark{kind: api.ValInt, text: laid(ofBool(t.Bool))}
	case api.ValInt:
		return mark{kind: api.ValInt, text: laid(t.Num)}
	case api.ValStr:
		return mark{kind: api.ValStr, text: t.Text}
	}
	return mark{kind: t.Kind, number: i}
}

// laid is an Int's sign and words as bytes: digits would take their time.
func laid(x api.Int) string {
	num, _ := formed(x)
	list := make([]byte, 0, 1+4*len(num.Mag))
	if num.Neg {
		list = append(list, '-')
	} else {
		list = append(list, '+')
	}
	for _, w := range num.Mag {
		list = append(list, byte(w), byte(w>>8), byte(w>>16), byte(w>>24))
	}
	return string(list)
}

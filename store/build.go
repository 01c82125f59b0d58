package store

import (
	"lexicon/api"
	"lexicon/digest"
	"lexicon/probe"
)

// className is the name of all classes that are made for terms.
const className = "C"

// builder makes a value of each term; they have been found to be right.
type builder struct {
	store  *Store
	terms  []api.Term
	made   []int       // of the terms so far
	hashes map[int]int // as keys, by the numbers of terms: a text may be long
}

// build is the values, in the order of the terms.
func (b *builder) build() []int {
	for _, t := range b.terms {
		b.made = append(b.made, b.value(t))
	}
	b.fill()
	return b.made
}

// value is that of a term; a list is empty as yet.
func (b *builder) value(t api.Term) int {
	s := b.store
	switch t.Kind {
	case api.ValNone:
		return s.NewNone()
	case api.ValBool:
		return s.NewBool(t.Bool)
	case api.ValInt:
		return s.NewInt(t.Num)
	case api.ValStr:
		return s.NewStr(t.Text)
	case api.ValTuple:
		return s.NewTuple(b.values(t.Kids))
	case api.ValList:
		return s.NewList(nil)
	case api.ValDict:
		return b.dict(t.Kids)
	case api.ValSet, api.ValFrozen:
		return b.set(t.Kids, t.Kind == api.ValFrozen)
	case api.ValInstance:
		return b.instance(t)
	}
	return s.NewView(t.Kind, b.made[t.Kids[0]])
}

// fill gives the lists their values, which may stand behind them.
func (b *builder) fill() {
	for i, t := range b.terms {
		if list, ok := b.store.Get(b.made[i]).(*List); ok {
			list.Values = b.values(t.Kids)
		}
	}
}

func (b *builder) values(numbers []int) []int {
	var list []int
	for _, number := range numbers {
		list = append(list, b.made[number])
	}
	return list
}

func (b *builder) dict(kids []int) int {
	pairs := b.store.hashed()
	for i := 0; i < len(kids); i += 2 {
		b.put(pairs.Dict, kids[i], b.made[kids[i+1]])
	}
	return b.store.add(&Dict{pairs})
}

func (b *builder) set(kids []int, frozen bool) int {
	pairs := b.store.hashed()
	for _, kid := range kids {
		b.put(pairs.Dict, kid, 0)
	}
	return b.store.add(&Set{hashed: pairs, Frozen: frozen})
}

func (b *builder) instance(t api.Term) int {
	class := b.store.class(className, Nothing)
	class.Hash, class.Same = t.Hash, t.Same
	return b.store.NewInstance(b.store.add(class))
}

// put puts a term's value into a Dict as a key. Nobody need be asked: simple
// keys are the same where they are alike.
func (b *builder) put(d *probe.Dict, number, value int) {
	key := b.made[number]
	m := d.Begin(api.GoalPut, b.hash(number), key, value)
	for turn := m.Step(); turn.Kind == api.TurnAsk; turn = m.Step() {
		m.Tell(b.store.Alike(turn.Key, key))
	}
}

// hash is a term's as a key.
func (b *builder) hash(number int) int {
	hash, known := b.hashes[number]
	if known {
		return hash
	}
	if t := b.terms[number]; t.Kind == api.ValInstance && t.Hash {
		hash = digest.Whole(t.Num)
	} else {
		hash = b.store.Hash(b.made[number])
	}
	b.hashes[number] = hash
	return hash
}

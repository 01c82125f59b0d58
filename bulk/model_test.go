package bulk_test

import (
	"slices"

	"lexicon/api"
	"lexicon/bulk"
	"lexicon/digest"
	"lexicon/store"
	"lexicon/whole"
)

// thing is a value as the chapters say it, without a reference.
type thing struct {
	kind   int
	place  int // in kit.v; -1: a gather has made it
	number int // of an object
	n      int // that an int is, or a bool
	text   string
	row    []*thing
	dict   *sequence // of a dictionary, of the dict that a view is of
	hash   bool      // its class says __hash__
	same   bool      // its class says __eq__
}

// sequence is a Dict, as a sequence of pairs.
type sequence struct {
	pairs   []pair
	changes int
}

type pair struct {
	key   *thing
	hash  int
	value *thing // nil: 0
}

// answer is an Ask of the model.
type answer struct {
	kind, what int
	a, b       *thing
	hash       int
	yes        bool
	value      *thing
	why        int
}

// event is what a machine tells, behind so many turns, what it is told then,
// and what is changed ahead of that.
type event struct {
	turns   int
	answer  answer // zero: the model was left there, behind that many turns and more
	told    *thing
	changes []change
}

// change is something that is done to a value by somebody who is asked.
type change struct {
	what              int
	of                int // a place; ofResult, too
	number            int // of the result
	key, value, other int // places
	hash              int
}

const ofResult = -1

const (
	changePut = iota
	changeTake
	changeClear
	changeAppend
	changeCut
	changeTurn
	changes
)

// model is machines, word by word as the chapter says them, by the language's
// own calls: what is asked is answered on the spot.
type model struct {
	things []*thing
	last   int // number that was given
	most   int // pairs that a dictionary may have
	oracle func(what, asked int) (told *thing, changes []change)
	result *thing // what a row has made

	turns  int // since the last event
	asked  int
	anew   int // how often a scan began anew
	events []event
}

// left is why a run of the model comes to an end.
type left struct{}

const (
	mostTurns = 250
	mostAsks  = 14
)

// run is the events of one thing that a machine does.
func (m *model) run(do func() answer) {
	defer func() {
		if r := recover(); r != nil && r != (left{}) {
			panic(r)
		}
	}()
	m.tell(do())
}

func (m *model) tell(a answer) {
	m.events = append(m.events, event{turns: m.turns, answer: a})
	m.turns = 0
}

// end leaves the run.
func (m *model) end(a answer) {
	m.tell(a)
	panic(left{})
}

func (m *model) fail() { m.end(answer{kind: api.TurnFail, why: api.WhyType}) }

// turn takes a turn; a run that takes too many is left ahead of it.
func (m *model) turn() {
	if m.turns == mostTurns {
		m.end(answer{})
	}
	m.turns++
}

func (m *model) ask(what int, a, b *thing) *thing {
	m.tell(answer{kind: api.TurnAsk, what: what, a: a, b: b})
	if m.asked == mostAsks {
		panic(left{})
	}
	m.asked++
	e := &m.events[len(m.events)-1]
	e.told, e.changes = m.oracle(what, m.asked)
	for _, c := range e.changes {
		m.change(c)
	}
	return e.told
}

func (m *model) hash(v *thing) int {
	m.turn()
	switch v.kind {
	case api.ValNone:
		return digest.Whole(whole.Of(-7))
	case api.ValBool, api.ValInt:
		return digest.Whole(whole.Of(v.n))
	case api.ValStr, api.ValNative:
		return digest.Text(v.text)
	case api.ValTuple:
		var parts []int
		for _, part := range v.row {
			parts = append(parts, m.hash(part))
		}
		return digest.Tuple(parts)
	case api.ValFrozen:
		var parts []int
		for _, p := range v.dict.pairs {
			parts = append(parts, p.hash)
		}
		return digest.Frozen(parts)
	case api.ValFunc, api.ValBound, api.ValClass:
		return digest.Number(v.number)
	case api.ValInstance:
		if v.hash {
			told := m.ask(api.AskHash, v, nil)
			if told.kind == api.ValInt || told.kind == api.ValBool {
				return digest.Whole(whole.Of(told.n))
			}
		} else if !v.same {
			return digest.Number(v.number)
		}
	}
	m.fail()
	return 0
}

func alike(a, b *thing) bool {
	number := func(v *thing) bool { return v.kind == api.ValInt || v.kind == api.ValBool }
	switch {
	case a == b:
		return true
	case number(a) && number(b):
		return a.n == b.n
	case a.kind != b.kind:
		return false
	case a.kind == api.ValStr || a.kind == api.ValNative:
		return a.text == b.text
	}
	return a.kind == api.ValNone
}

func truth(v *thing) bool {
	switch v.kind {
	case api.ValNone:
		return false
	case api.ValBool, api.ValInt:
		return v.n != 0
	case api.ValStr:
		return v.text != ""
	case api.ValTuple, api.ValList:
		return len(v.row) > 0
	case api.ValVars: // of an instance without a name
		return false
	}
	return v.dict == nil || len(v.dict.pairs) > 0
}

func (m *model) compare(a, b *thing) bool {
	if alike(a, b) {
		return true
	}
	m.turn()
	row := func(v *thing) bool { return v.kind == api.ValTuple || v.kind == api.ValList }
	side := func(v *thing) bool {
		return slices.Contains([]int{api.ValSet, api.ValFrozen, api.ValKeys, api.ValItems}, v.kind)
	}
	switch {
	case a.same:
		return truth(m.ask(api.AskSame, a, b))
	case b.same:
		return truth(m.ask(api.AskSame, b, a))
	case row(a) && a.kind == b.kind:
		return m.rows(a, b)
	case a.kind == api.ValDict && b.kind == api.ValDict:
		return m.dicts(a.dict, b.dict)
	case side(a) && side(b):
		return m.sides(a, b)
	}
	return false
}

func (m *model) rows(a, b *thing) bool {
	if len(a.row) != len(b.row) {
		return false
	}
	for i := 0; i < len(a.row) && i < len(b.row); i++ {
		if !m.compare(a.row[i], b.row[i]) {
			return false
		}
	}
	return len(a.row) == len(b.row)
}

func (m *model) dicts(a, b *sequence) bool {
	if len(a.pairs) != len(b.pairs) {
		return false
	}
	for _, p := range slices.Clone(a.pairs) {
		value, ok := m.goal(b, api.GoalGet, p.key, p.hash, nil)
		if !ok || !m.compare(p.value, value) {
			return false
		}
	}
	return true
}

func (m *model) sides(a, b *thing) bool {
	p, q := m.side(a), m.side(b)
	if len(p.pairs) != len(q.pairs) {
		return false
	}
	for _, x := range slices.Clone(p.pairs) {
		if _, ok := m.goal(q, api.GoalGet, x.key, x.hash, nil); !ok {
			return false
		}
	}
	return true
}

func (m *model) side(v *thing) *sequence {
	if v.kind != api.ValItems {
		return v.dict
	}
	m.last++ // the frozen set's
	made := &sequence{}
	for _, p := range slices.Clone(v.dict.pairs) {
		m.last++
		x := &thing{kind: api.ValTuple, place: -1, number: m.last, row: []*thing{p.key, p.value}}
		m.goal(made, api.GoalPut, x, m.hash(x), nil)
	}
	return made
}

// goal is what becomes of a goal: the value, and whether the key was there.
func (m *model) goal(q *sequence, goal int, key *thing, hash int, value *thing) (*thing, bool) {
again:
	before := q.changes
	for i, p := range slices.Clone(q.pairs) {
		if p.hash != hash {
			continue
		}
		same := p.key == key || m.compare(p.key, key)
		if q.changes != before {
			m.anew++
			goto again
		}
		if !same {
			continue
		}
		switch goal {
		case api.GoalPut:
			q.pairs[i].value = value
			q.changes++
		case api.GoalDelete:
			q.pairs = slices.Delete(q.pairs, i, i+1)
			q.changes++
		}
		return p.value, true
	}
	if goal == api.GoalGet || goal == api.GoalDelete {
		return nil, false
	}
	if len(q.pairs) == m.most {
		m.end(answer{kind: api.TurnFull})
	}
	q.pairs = append(q.pairs, pair{key, hash, value})
	q.changes++
	return value, false
}

// made is an object that is made.
func (m *model) made(x thing) *thing {
	m.last++
	x.place, x.number = -1, m.last
	return &x
}

// row does what an op does.
func (m *model) row(op int, a, b *thing) answer {
	switch op {
	case bulk.Gt, bulk.Ge:
		return m.row(op-2, b, a)
	case bulk.Gather:
		m.result = m.made(thing{kind: api.ValSet, dict: &sequence{}})
		m.update(m.result, b)
		return answer{kind: api.TurnDone, value: m.result}
	case bulk.Frozen:
		m.result = m.made(thing{kind: api.ValFrozen, dict: &sequence{}})
		m.update(m.result, b)
		return answer{kind: api.TurnDone, value: m.result}
	case bulk.Update:
		m.update(a, b)
		return answer{kind: api.TurnDone}
	case bulk.Spread:
		m.spread(a.dict, b.dict)
		return answer{kind: api.TurnDone}
	case bulk.Extend:
		for _, x := range slices.Clone(b.row) {
			m.turn()
			a.row = append(a.row, x)
		}
		return answer{kind: api.TurnDone}
	}
	p, q := m.side(a), m.side(b)
	switch op {
	case bulk.Lt, bulk.Le:
		return answer{kind: api.TurnDone, yes: m.within(p, q, op == bulk.Lt)}
	case bulk.Or:
		m.or(a, p, q)
	case bulk.And, bulk.Sub, bulk.Xor:
		m.some(op, a, p, q)
	}
	return answer{kind: api.TurnDone, value: m.result}
}

func (m *model) or(a *thing, p, q *sequence) {
	first, second := slices.Clone(p.pairs), slices.Clone(q.pairs)
	kind := api.ValSet
	if a.kind == api.ValFrozen || a.kind == api.ValDict {
		kind = a.kind
	}
	m.result = m.made(thing{kind: kind, dict: &sequence{}})
	value := func(x pair) *thing {
		if kind == api.ValDict {
			return x.value
		}
		return nil
	}
	for _, x := range first {
		m.turn()
		m.copied(m.result.dict, x.key, x.hash, value(x))
	}
	for _, x := range second {
		m.turn()
		m.goal(m.result.dict, api.GoalPut, x.key, x.hash, value(x))
	}
}

// some is And, Sub and Xor.
func (m *model) some(op int, a *thing, p, q *sequence) {
	first, second := slices.Clone(p.pairs), slices.Clone(q.pairs)
	kind := api.ValSet
	if a.kind == api.ValFrozen {
		kind = api.ValFrozen
	}
	m.result = m.made(thing{kind: kind, dict: &sequence{}})
	for _, x := range first {
		m.turn()
		if _, ok := m.goal(q, api.GoalGet, x.key, x.hash, nil); ok == (op == bulk.And) {
			m.copied(m.result.dict, x.key, x.hash, nil)
		}
	}
	if op != bulk.Xor {
		return
	}
	for _, x := range second {
		m.turn()
		if _, ok := m.goal(p, api.GoalGet, x.key, x.hash, nil); !ok {
			m.goal(m.result.dict, api.GoalPut, x.key, x.hash, nil)
		}
	}
}

// copied adds a pair, and asks nobody.
func (m *model) copied(q *sequence, key *thing, hash int, value *thing) {
	if len(q.pairs) == m.most {
		m.end(answer{kind: api.TurnFull})
	}
	q.pairs = append(q.pairs, pair{key, hash, value})
	q.changes++
}

func (m *model) within(p, q *sequence, less bool) bool {
	if len(p.pairs) > len(q.pairs) || less && len(p.pairs) == len(q.pairs) {
		return false
	}
	for _, x := range slices.Clone(p.pairs) {
		m.turn()
		if _, ok := m.goal(q, api.GoalGet, x.key, x.hash, nil); !ok {
			return false
		}
	}
	return true
}

func (m *model) update(a, b *thing) {
	if a.kind == api.ValDict {
		for _, x := range slices.Clone(b.dict.pairs) {
			m.turn()
			m.goal(a.dict, api.GoalPut, x.key, x.hash, x.value)
		}
		return
	}
	row := slices.Clone(b.row)
	for _, r := range b.text {
		row = append(row, &thing{kind: api.ValStr, place: -1, text: string(r)})
	}
	for _, x := range row {
		m.turn()
		m.goal(a.dict, api.GoalPut, x, m.hash(x), nil)
	}
	if len(row) > 0 || b.dict == nil {
		return
	}
	for _, x := range slices.Clone(m.side(b).pairs) {
		m.turn()
		m.goal(a.dict, api.GoalPut, x.key, x.hash, nil)
	}
}

func (m *model) spread(a, b *sequence) {
	for _, x := range slices.Clone(b.pairs) {
		if x.key.kind != api.ValStr {
			m.fail()
		}
		m.turn()
		if _, ok := m.goal(a, api.GoalGet, x.key, x.hash, nil); ok {
			m.fail()
		}
		m.goal(a, api.GoalPut, x.key, x.hash, x.value)
	}
}

// change does something to a thing of the model.
func (m *model) change(c change) {
	of := m.result
	if c.of != ofResult {
		of = m.things[c.of]
	}
	switch c.what {
	case changePut:
		m.put(of, m.things[c.key], c.hash, m.things[c.value])
	case changeTake:
		if n := len(of.dict.pairs); n > 0 {
			of.dict.pairs = slices.Delete(of.dict.pairs, c.other%n, c.other%n+1)
			of.dict.changes++
		}
	case changeClear:
		of.dict.pairs = nil
		of.dict.changes++
	case changeAppend:
		of.row = append(of.row, m.things[c.value])
	case changeCut:
		if n := len(of.row); n > 0 {
			of.row = slices.Delete(slices.Clone(of.row), c.other%n, c.other%n+1)
		}
	case changeTurn:
		if n := len(of.row); n > 0 {
			of.row[c.other%n] = m.things[c.value]
		}
	}
}

func (m *model) put(of, key *thing, hash int, value *thing) {
	q := of.dict
	if of.kind != api.ValDict {
		value = nil
	}
	i := slices.IndexFunc(q.pairs, func(p pair) bool { return p.key == key && p.hash == hash })
	switch {
	case i >= 0:
		q.pairs[i].value = value
	case len(q.pairs) == m.most:
		return
	default:
		q.pairs = append(q.pairs, pair{key, hash, value})
	}
	q.changes++
}

// change does it to the value.
func (k kit) change(c change) {
	value := k.v[c.value]
	of := k.numbered(c.number)
	if c.of != ofResult {
		of = k.v[c.of]
	}
	switch c.what {
	case changePut:
		if k.Kind(of) != api.ValDict {
			value = 0
		}
		k.put(of, k.v[c.key], c.hash, value)
	case changeTake:
		if pairs := k.dict(of).Pairs(); len(pairs) > 0 {
			p := pairs[c.other%len(pairs)]
			k.take(of, p.Key, p.Hash)
		}
	case changeClear:
		k.dict(of).Clear()
	case changeAppend:
		x := k.list(of)
		x.Values = append(x.Values, value)
	case changeCut:
		x := k.list(of)
		if n := len(x.Values); n > 0 {
			x.Values = slices.Delete(slices.Clone(x.Values), c.other%n, c.other%n+1)
		}
	case changeTurn:
		x := k.list(of)
		if n := len(x.Values); n > 0 {
			x.Values[c.other%n] = value
		}
	}
}

// extras are values of the kinds that Build does not make, and instances of
// classes that say something by names.
func (k *kit) extras() {
	k.v = append(k.v, k.named([]string{"__hash__"}), k.named(nil, []string{"x", "__eq__"}), k.named([]string{"x"}, nil, []string{"__eq__", "__hash__"}), k.named([]string{"x"}))
	k.v = append(k.v, k.NewNative(1, "print"), k.NewNative(2, "len"), k.NewNative(2, "len"))
	k.v = append(k.v, k.NewFunc(0, "f", nil, nil), k.NewBound(k.v[0], k.v[0]), k.NewClass("K", store.Nothing))
	k.v = append(k.v, k.NewCell(), k.NewIter(through{}), k.NewView(api.ValVars, k.v[0]))
}

// extraThings is the same for the model: each instance has so many classes.
func (m *model) extraThings() {
	for _, x := range []struct {
		classes int
		thing   thing
	}{
		{1, thing{kind: api.ValInstance, hash: true}},
		{2, thing{kind: api.ValInstance, same: true}},
		{3, thing{kind: api.ValInstance, hash: true, same: true}},
		{1, thing{kind: api.ValInstance}},
		{0, thing{kind: api.ValNative, text: "print"}},
		{0, thing{kind: api.ValNative, text: "len"}},
		{0, thing{kind: api.ValNative, text: "len"}},
		{0, thing{kind: api.ValFunc}},
		{0, thing{kind: api.ValBound}},
		{0, thing{kind: api.ValClass}},
		{0, thing{kind: api.ValCell}},
		{0, thing{kind: api.ValIter}},
		{0, thing{kind: api.ValVars}},
	} {
		m.add(x.classes, x.thing)
	}
}

// add gives a thing its place, and an object its number.
func (m *model) add(classes int, x thing) {
	x.place = len(m.things)
	if x.kind > api.ValStr && x.kind != api.ValNative {
		m.last += classes + 1
		x.number = m.last
	}
	m.things = append(m.things, &x)
}

// take takes over the values of terms: v is their references, by which those
// are known that are one.
func (m *model) take(terms []api.Term, v []int) {
	for i, t := range terms {
		if at := slices.Index(v[:i], v[i]); at >= 0 {
			m.things = append(m.things, m.things[at])
			continue
		}
		x := thing{kind: t.Kind}
		classes := 0
		switch t.Kind {
		case api.ValStr:
			x.text = t.Text
		case api.ValBool:
			if t.Bool {
				x.n = 1
			}
		case api.ValInt:
			x.n, _ = whole.Small(t.Num)
		case api.ValInstance:
			x.hash, x.same, classes = t.Hash, t.Same, 1
		case api.ValDict, api.ValSet, api.ValFrozen:
			x.dict = &sequence{}
		case api.ValKeys, api.ValValues, api.ValItems:
			x.dict = m.things[t.Kids[0]].dict
		}
		m.add(classes, x)
	}
	for i, t := range terms {
		m.fill(m.things[i], t, terms)
	}
}

func (m *model) fill(x *thing, t api.Term, terms []api.Term) {
	switch t.Kind {
	case api.ValTuple, api.ValList:
		for _, kid := range t.Kids {
			x.row = append(x.row, m.things[kid])
		}
	case api.ValDict:
		for i := 0; i < len(t.Kids); i += 2 {
			m.lay(x, m.things[t.Kids[i]], terms[t.Kids[i]], m.things[t.Kids[i+1]])
		}
	case api.ValSet, api.ValFrozen:
		for _, kid := range t.Kids {
			m.lay(x, m.things[kid], terms[kid], nil)
		}
	}
}

// lay puts in a simple key, as Build does.
func (m *model) lay(x, key *thing, t api.Term, value *thing) {
	for i, p := range x.dict.pairs {
		if alike(p.key, key) {
			x.dict.pairs[i].value = value
			return
		}
	}
	hash := 0
	if t.Hash {
		hash = digest.Whole(t.Num)
	} else {
		hash = m.hash(key)
		m.turns = 0
	}
	x.dict.pairs = append(x.dict.pairs, pair{key, hash, value})
}

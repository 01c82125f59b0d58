package store_test

import (
	"math"
	"math/big"
	"math/rand"
	"slices"
	"strconv"
	"strings"
	"testing"

	"lexicon/api"
	"lexicon/digest"
	"lexicon/letters"
	"lexicon/meter"
	"lexicon/probe"
	"lexicon/shared"
	"lexicon/store"
	"lexicon/table"
	"lexicon/whole"
)

// model is a Store, word by word as the chapter says it.
type model struct {
	pairs  int
	meter  *meter.Meter
	things map[int]*thing // the values that there are, by their references
	last   int            // number
	gone   []int          // references that are no values any more
}

// thing is a value: of a list of terms, which it keeps, it was the one of a
// place.
type thing struct {
	term   api.Term
	number int
	row    []int // references: what Parts tells
}

// value is the number that a bool or an int is.
func value(t api.Term) (*big.Int, bool) {
	n := new(big.Int)
	switch t.Kind {
	case api.ValBool:
		if t.Bool {
			n.SetInt64(1)
		}
		return n, true
	case api.ValInt:
		for i := len(t.Num.Mag) - 1; i >= 0; i-- {
			n.Lsh(n, 32).Add(n, big.NewInt(int64(t.Num.Mag[i])))
		}
		if t.Num.Neg {
			n.Neg(n)
		}
		return n, true
	}
	return nil, false
}

// plainAlike tells whether two plain terms are alike.
func plainAlike(a, b api.Term) bool {
	m, ok := value(a)
	n, also := value(b)
	switch {
	case ok || also:
		return ok && also && m.Cmp(n) == 0
	case a.Kind != b.Kind:
		return false
	case a.Kind == api.ValStr:
		return a.Text == b.Text
	}
	return a.Kind == api.ValNone
}

func simple(t api.Term) bool {
	switch t.Kind {
	case api.ValNone, api.ValBool, api.ValInt, api.ValStr:
		return true
	case api.ValInstance:
		return t.Hash || !t.Hash && !t.Same
	}
	return false
}

// keys is the numbers of the terms that a term has as keys or elements.
func keys(t api.Term) []int {
	var list []int
	for i, kid := range t.Kids {
		if t.Kind == api.ValSet || t.Kind == api.ValFrozen || t.Kind == api.ValDict && i%2 == 0 {
			list = append(list, kid)
		}
	}
	return list
}

// refused is the error of the first term that has one.
func (m *model) refused(terms []api.Term) api.Errno {
	for i := range terms {
		for _, wrong := range []func([]api.Term, int) api.Errno{m.wrongKind, m.wrongArg, m.tooBig} {
			if e := wrong(terms, i); e != api.OK {
				return e
			}
		}
	}
	return api.OK
}

var views = []int{api.ValKeys, api.ValValues, api.ValItems}

func (m *model) wrongKind(terms []api.Term, i int) api.Errno {
	for _, k := range append([]int{1, 2, 3, 4, 5, 6, 7, 8, 9, api.ValInstance}, views...) {
		if k == terms[i].Kind {
			return api.OK
		}
	}
	return api.ErrKind
}

func (m *model) wrongArg(terms []api.Term, i int) api.Errno {
	t := terms[i]
	for _, kid := range t.Kids {
		if kid < 0 || kid >= len(terms) || kid >= i && t.Kind != api.ValList {
			return api.ErrArg
		}
	}
	for _, key := range keys(t) {
		if !simple(terms[key]) {
			return api.ErrArg
		}
	}
	kids := len(t.Kids)
	switch {
	case t.Kind == api.ValStr && !letters.Good(t.Text),
		t.Kind == api.ValDict && kids%2 == 1,
		slices.Contains(views, t.Kind) && (kids != 1 || terms[t.Kids[0]].Kind != api.ValDict),
		(t.Kind <= api.ValStr || t.Kind == api.ValInstance) && kids > 0:
		return api.ErrArg
	}
	return api.OK
}

func (m *model) tooBig(terms []api.Term, i int) api.Errno {
	t := terms[i]
	n, _ := value(t)
	var unlike []int
	for _, key := range keys(t) {
		if !slices.ContainsFunc(unlike, func(k int) bool { return k == key || plainAlike(terms[k], terms[key]) }) {
			unlike = append(unlike, key)
		}
	}
	switch {
	case t.Kind == api.ValStr && len([]rune(t.Text)) > api.MaxText,
		t.Kind == api.ValInt && n.BitLen() > 32*api.MaxLimbs,
		(t.Kind == api.ValTuple || t.Kind == api.ValList) && len(t.Kids) > api.MaxItems,
		len(unlike) > m.pairs:
		return api.ErrBig
	}
	return api.OK
}

// build takes over the values that a Store has made of terms.
func (m *model) build(terms []api.Term, made []int) {
	for i, t := range terms {
		x := &thing{term: t}
		if t.Kind == api.ValInstance {
			m.last++ // its class: a namespace, and a key table
			probe.New(m.pairs, m.meter)
			shared.New(1, m.pairs, m.meter)
		}
		if t.Kind > api.ValStr {
			m.last++
			x.number = m.last
		}
		if old := m.things[made[i]]; old == nil { // what is plain may have one reference often
			m.things[made[i]] = x
		}
		x.row = m.rowOf(terms, made, i)
	}
}

func (m *model) rowOf(terms []api.Term, made []int, i int) []int {
	var row []int
	if list := terms[i].Kids; terms[i].Kind < api.ValDict || slices.Contains(views, terms[i].Kind) {
		for _, kid := range list {
			row = append(row, made[kid])
		}
		return row
	}
	if terms[i].Kind == api.ValInstance {
		return nil
	}
	// A table beside it counts what is to be counted.
	x := table.New(m.meter)
	for at, key := range keys(terms[i]) {
		row = m.put(x, row, terms, made, i, at, key)
	}
	return row
}

// put puts a key in, with the value 0 if it is an element.
func (m *model) put(x *table.Table, row []int, terms []api.Term, made []int, i, at, key int) []int {
	wide, val := 1, 0
	if terms[i].Kind == api.ValDict {
		wide, val = 2, made[terms[i].Kids[2*at+1]]
	}
	hash := m.hash(terms[key], made[key])
	seeker := x.Seek(hash)
	for n, ok := seeker.Next(); ok; n, ok = seeker.Next() {
		e, _ := x.At(n)
		there := m.things[e.Key]
		if e.Key == made[key] || plainAlike(there.term, terms[key]) {
			if wide == 2 {
				row[2*n+1] = val
			}
			return row
		}
	}
	x.Add(hash, made[key], val)
	return append(row, []int{made[key], val}[:wide]...)
}

func (m *model) hash(t api.Term, v int) int {
	switch t.Kind {
	case api.ValNone:
		return digest.Whole(whole.Of(-7))
	case api.ValBool:
		if t.Bool {
			return 1
		}
		return 0
	case api.ValInt:
		return digest.Whole(t.Num)
	case api.ValStr:
		return digest.Text(t.Text)
	}
	if t.Hash {
		return digest.Whole(t.Num)
	}
	return digest.Number(m.things[v].number)
}

// live is how many objects there are, classes too.
func (m *model) live() int {
	n := 0
	for _, x := range m.things {
		if x.number > 0 {
			n++
		}
		if x.term.Kind == api.ValInstance {
			n++
		}
	}
	return n
}

// sweep is how many objects can't be reached; they and what is plain go.
func (m *model) sweep(roots []int) int {
	in := map[int]bool{}
	for v, x := range m.things {
		if x.term.Kind <= api.ValBool || slices.Contains(roots, v) {
			in[v] = true
		}
	}
	for size := -1; size != len(in); {
		size = len(in)
		for v := range in {
			for _, w := range m.things[v].row {
				in[w] = true
			}
		}
	}
	before := m.live()
	for v := range m.things {
		if !in[v] {
			delete(m.things, v)
			m.gone = append(m.gone, v)
		}
	}
	return before - m.live()
}

func (m *model) tag(v int) string {
	x := m.things[v]
	n, ok := value(x.term)
	switch {
	case x.term.Kind == api.ValBool && x.term.Bool:
		return "True"
	case x.term.Kind == api.ValBool:
		return "False"
	case ok:
		return n.String()
	case x.term.Kind == api.ValStr:
		return letters.Quote(x.term.Text)
	case x.term.Kind == api.ValNone:
		return "None"
	}
	return "#" + strconv.Itoa(x.number)
}

func (m *model) len(v int) (int, api.Errno) {
	x := m.things[v]
	switch {
	case x.term.Kind == api.ValStr:
		return len([]rune(x.term.Text)), api.OK
	case x.term.Kind == api.ValDict:
		return len(x.row) / 2, api.OK
	case slices.Contains(views, x.term.Kind):
		return m.len(x.row[0])
	case x.term.Kind < api.ValTuple, x.term.Kind == api.ValInstance:
		return 0, api.ErrKind
	}
	return len(x.row), api.OK
}

func (m *model) truth(v int) bool {
	x := m.things[v]
	n, ok := value(x.term)
	size, e := m.len(v)
	switch {
	case ok:
		return n.Sign() != 0
	case e == api.OK:
		return size > 0
	}
	return x.term.Kind == api.ValInstance
}

func (m *model) is(a, b int) bool {
	return a == b || m.alike(a, b) && m.things[a].term.Kind == m.things[b].term.Kind
}

func (m *model) alike(a, b int) bool {
	return a == b || plainAlike(m.things[a].term, m.things[b].term)
}

// check holds all that a Store tells against the model.
func (m *model) check(t *testing.T, s *store.Store) {
	t.Helper()
	if s.Live() != m.live() {
		t.Fatalf("P19.7: Live %d, want %d", s.Live(), m.live())
	}
	for v, x := range m.things {
		n, e := s.Len(v)
		want, wantE := m.len(v)
		if s.Kind(v) != x.term.Kind || s.Number(v) != x.number || s.Tag(v) != m.tag(v) {
			t.Fatalf("P19.3: kind %d, number %d, tag %.50s, want %d, %d, %.50s", s.Kind(v), s.Number(v), s.Tag(v), x.term.Kind, x.number, m.tag(v))
		}
		if n != want || e != wantE || s.Truth(v) != m.truth(v) {
			t.Fatalf("P19.4: %.50s: Len %d, %d, Truth %t, want %d, %d, %t", s.Tag(v), n, e, s.Truth(v), want, wantE, m.truth(v))
		}
		if !slices.Equal(s.Parts(v), x.row) {
			t.Fatalf("P19.6: %.50s: Parts %v, want %v", s.Tag(v), s.Parts(v), x.row)
		}
		for w := range m.things {
			if s.Is(v, w) != m.is(v, w) || s.Alike(v, w) != m.alike(v, w) {
				t.Fatalf("P19.5: %.50s, %.50s: Is %t, Alike %t", s.Tag(v), s.Tag(w), s.Is(v, w), s.Alike(v, w))
			}
		}
	}
	for _, v := range m.gone {
		// A class may have it by now: no answer tells which reference that has.
		if m.things[v] == nil && s.Kind(v) != api.ValClass && all(s, v) != nothing {
			t.Fatalf("P19.7: %d is no value: %s", v, all(s, v))
		}
	}
}

// dice is terms by chance.
type dice struct{ *rand.Rand }

// terms is a list of terms of which each is right, for the most part; wrong is
// how often one is not, in a thousand.
func (r dice) terms(most, wrong int) []api.Term {
	kinds := []int{1, 2, 2, 3, 3, 3, 4, 4, 5, 6, 6, 7, 7, 8, 9, api.ValInstance, api.ValInstance, api.ValKeys, api.ValValues, api.ValItems}
	count := r.Intn(most + 1)
	var list []api.Term
	for len(list) < count {
		x := api.Term{Kind: kinds[r.Intn(len(kinds))], Bool: r.Intn(2) == 0, Hash: r.Intn(2) == 0, Same: r.Intn(3) == 0, Num: r.num(), Text: r.text()}
		if !r.kids(&x, list, count) {
			continue
		}
		if r.Intn(1000) < wrong {
			r.spoil(&x, count)
		}
		list = append(list, x)
	}
	return list
}

func (r dice) num() api.Int {
	x := api.Int{Neg: r.Intn(2) == 0}
	for range r.Intn(3) {
		x.Mag = append(x.Mag, []uint32{0, 0, 1, 2, 7, math.MaxUint32, math.MaxUint32 >> 3}[r.Intn(7)])
	}
	if r.Intn(20) == 0 {
		x.Mag = make([]uint32, api.MaxLimbs+r.Intn(5))
		x.Mag[api.MaxLimbs-1-r.Intn(3)] = 3
	}
	return x
}

func (r dice) text() string {
	return []string{"", "a", "b", "a", "\u00e9'", "None", "1", "\x00", strings.Repeat("\u2028", 40)}[r.Intn(9)]
}

// kids gives a term Kids that are right; false, if there are none such.
func (r dice) kids(x *api.Term, ahead []api.Term, count int) bool {
	pick := func(ok func(t api.Term) bool) int {
		var fit []int
		for i, t := range ahead {
			if ok(t) {
				fit = append(fit, i)
			}
		}
		if len(fit) == 0 {
			return -1
		}
		return fit[r.Intn(len(fit))]
	}
	add := func(kid int) {
		if kid >= 0 {
			x.Kids = append(x.Kids, kid)
		}
	}
	any := func(api.Term) bool { return true }
	many := r.Intn(7)
	for range many {
		switch x.Kind {
		case api.ValTuple:
			add(pick(any))
		case api.ValList:
			add(r.Intn(count))
		case api.ValSet, api.ValFrozen:
			add(pick(simple))
		case api.ValDict:
			if key := pick(simple); key >= 0 {
				add(key)
				add(pick(any))
			}
		}
	}
	if slices.Contains(views, x.Kind) {
		add(pick(func(t api.Term) bool { return t.Kind == api.ValDict }))
		return len(x.Kids) == 1
	}
	return true
}

// spoil makes a term wrong, or another one.
func (r dice) spoil(x *api.Term, count int) {
	switch r.Intn(6) {
	case 0:
		x.Kind = r.Intn(25) - 2
	case 1:
		x.Kids = append(x.Kids, r.Intn(count+2)-1)
	case 2:
		x.Text += "\xe9"
	case 3:
		x.Num.Mag = append(make([]uint32, api.MaxLimbs), 1)
	case 4:
		if len(x.Kids) > 0 {
			x.Kids = slices.Clone(x.Kids[1:])
		}
	case 5:
		x.Text = strings.Repeat("\u00e9", api.MaxText+r.Intn(2))
	}
}

// TestGames plays rounds on one Store: values are built, others refused, some
// swept.
func TestGames(t *testing.T) {
	outcomes := map[api.Errno]int{}
	for seed := range 400 {
		r := dice{rand.New(rand.NewSource(int64(seed)))}
		pairs := []int{2, 3, 5, 100}[r.Intn(4)]
		count := &meter.Meter{}
		m := &model{pairs: pairs, meter: &meter.Meter{}, things: map[int]*thing{}}
		s := fresh(t, api.Rules{Pairs: pairs, Shared: 4}, count)
		for range 10 {
			terms := r.terms(14, []int{0, 60}[r.Intn(2)])
			made, e := s.Build(terms)
			if want := m.refused(terms); e != want || len(made) != len(terms) && e == api.OK || made != nil && e != api.OK {
				t.Fatalf("P19.2: seed %d: %.1000v: %v, %d, want %d", seed, terms, made, e, want)
			}
			outcomes[e]++
			if e == api.OK {
				m.build(terms, made)
			}
			m.check(t, s)
			if count.Read() != m.meter.Read() {
				t.Fatalf("P19.1: the Meter: %+v, want %+v", count.Read(), m.meter.Read())
			}
			if r.Intn(2) == 0 {
				continue
			}
			roots := []int{-5, 1 << 40, 1000}
			for v := range m.things {
				if r.Intn(6) == 0 {
					roots = append(roots, v)
				}
			}
			if got, want := s.Sweep(roots), m.sweep(roots); got != want {
				t.Fatalf("P19.7: seed %d: Sweep %d, want %d", seed, got, want)
			}
			m.check(t, s)
		}
	}
	for _, e := range []api.Errno{api.OK, api.ErrKind, api.ErrArg, api.ErrBig} {
		if outcomes[e] < 20 {
			t.Errorf("the games had the outcome %d only %d times", e, outcomes[e])
		}
	}
}

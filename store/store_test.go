package store_test

import (
	"fmt"
	"math"
	"slices"
	"strings"
	"testing"

	"lexicon/api"
	"lexicon/digest"
	"lexicon/meter"
	"lexicon/store"
	"lexicon/whole"
)

// rules are those of most tests.
func rules(pairs int) api.Rules { return api.Rules{Pairs: pairs, Shared: 3} }

func term(kind int, kids ...int) api.Term { return api.Term{Kind: kind, Kids: kids} }

func noneTerm() api.Term { return term(api.ValNone) }

func boolTerm(yes bool) api.Term { return api.Term{Kind: api.ValBool, Bool: yes} }

func intTerm(n int) api.Term { return api.Term{Kind: api.ValInt, Num: whole.Of(n)} }

func strTerm(text string) api.Term { return api.Term{Kind: api.ValStr, Text: text} }

// words is an int of just these words.
func words(neg bool, list ...uint32) api.Term {
	return api.Term{Kind: api.ValInt, Num: api.Int{Neg: neg, Mag: list}}
}

func instance(hash, same bool) api.Term {
	return api.Term{Kind: api.ValInstance, Hash: hash, Same: same}
}

// hashing is an instance whose class says __hash__, with the hash of a number.
func hashing(n int) api.Term {
	return api.Term{Kind: api.ValInstance, Hash: true, Num: whole.Of(n)}
}

// intTerms is so many ints, from 0 on.
func intTerms(count int) []api.Term {
	var list []api.Term
	for n := range count {
		list = append(list, intTerm(n))
	}
	return list
}

// span is the numbers from one on, so many.
func span(from, count int) []int {
	var list []int
	for i := range count {
		list = append(list, from+i)
	}
	return list
}

func fresh(t *testing.T, r api.Rules, m *meter.Meter) *store.Store {
	t.Helper()
	s, e := store.New(r, m)
	if e != api.OK || s == nil {
		t.Fatalf("New: %d", e)
	}
	return s
}

func build(t *testing.T, s *store.Store, terms ...api.Term) []int {
	t.Helper()
	v, e := s.Build(terms)
	if e != api.OK || len(v) != len(terms) {
		t.Fatalf("Build: %v, %d", v, e)
	}
	for _, x := range v {
		if x < 0 {
			t.Fatalf("Build: a value below 0: %v", v)
		}
	}
	return v
}

func built(t *testing.T, terms ...api.Term) (*store.Store, []int) {
	t.Helper()
	s := fresh(t, rules(10), nil)
	return s, build(t, s, terms...)
}

// is holds things against each other as texts.
func is(t *testing.T, what string, got, want any) {
	t.Helper()
	if a, b := fmt.Sprint(got), fmt.Sprint(want); a != b {
		t.Errorf("%s: got %.300s, want %.300s", what, a, b)
	}
}

// tags is the tags of values, in one text.
func tags(s *store.Store, values ...int) string {
	var list []string
	for _, v := range values {
		list = append(list, s.Tag(v))
	}
	return strings.Join(list, " ")
}

// parts is the tags of a value's parts.
func parts(s *store.Store, v int) string { return tags(s, s.Parts(v)...) }

// size is what Len tells.
func size(s *store.Store, v int) string {
	n, e := s.Len(v)
	return fmt.Sprint(n, " ", int(e))
}

const noSize = "0 12" // ErrKind

// all is all that a Store tells of a value.
func all(s *store.Store, v int) string {
	return fmt.Sprint(s.Kind(v), s.Number(v), s.Tag(v), s.Truth(v), size(s, v), s.Parts(v), s.Alike(v, v), s.Is(v, v))
}

// nothing is what all tells of what is no value.
var nothing = fmt.Sprint(0, 0, "", false, noSize, []int(nil), false, false)

func TestP19_1Rules(t *testing.T) {
	good := api.Rules{Fuel: 5, Pairs: 5, Shared: 5}
	for what, r := range map[string]struct {
		row  func(r *api.Rules) *int
		most int
	}{
		"Fuel":   {func(r *api.Rules) *int { return &r.Fuel }, api.MaxFuel},
		"Pairs":  {func(r *api.Rules) *int { return &r.Pairs }, api.MaxPairs},
		"Shared": {func(r *api.Rules) *int { return &r.Shared }, api.MaxShared},
	} {
		for _, n := range []int{0, 1, r.most - 1, r.most} {
			x := good
			*r.row(&x) = n
			if s, e := store.New(x, nil); e != api.OK || s == nil || s.Live() != 0 {
				t.Errorf("P19.1: %s %d: %d", what, n, e)
			}
		}
		for _, n := range []int{-1, math.MinInt, r.most + 1, 2 * r.most, math.MaxInt, 1 << 32} {
			x := good
			*r.row(&x) = n
			if s, e := store.New(x, &meter.Meter{}); e != api.ErrArg || s != nil {
				t.Errorf("P19.1: %s %d: %d", what, n, e)
			}
		}
	}
	if s, e := store.New(api.Rules{Fuel: -1, Pairs: -1, Shared: -1}, nil); e != api.ErrArg || s != nil {
		t.Errorf("P19.1: all three: %d", e)
	}
	// What a run reads, and when it collects, is nothing to a Store.
	if s, e := store.New(api.Rules{Input: []string{"\xff"}, Forced: []int{-1}}, nil); e != api.OK || s == nil {
		t.Errorf("P19.1: other rows: %d", e)
	}
}

// TestP19_1New: nothing has been made, and nothing is counted by that.
func TestP19_1New(t *testing.T) {
	m := &meter.Meter{}
	s := fresh(t, rules(5), m)
	is(t, "P19.1: Live", s.Live(), 0)
	is(t, "P19.1: the Meter", m.Read(), api.Counts{})
	for v := -2; v < 100; v++ {
		if got := all(s, v); got != nothing {
			t.Errorf("P19.1: %d was never given: %s", v, got)
		}
	}
	v := build(t, s, noneTerm(), boolTerm(true), intTerm(7), strTerm("a"))
	is(t, "P19.1: what is plain is no object", s.Live(), 0)
	is(t, "P19.1: the Meter, of what is plain", m.Read(), api.Counts{})
	is(t, "P19.1: tags", tags(s, v...), "None True 7 'a'")
}

// TestP19_1Counts: Dicts, Families and Spaces count by the Meter that was
// handed in; without one nothing is counted.
func TestP19_1Counts(t *testing.T) {
	m := &meter.Meter{}
	s := fresh(t, api.Rules{Pairs: 9, Shared: 2}, m)
	for _, r := range []struct {
		terms  []api.Term
		tables int
	}{
		{[]api.Term{term(api.ValDict)}, 1},
		{[]api.Term{term(api.ValSet)}, 1},
		{[]api.Term{term(api.ValFrozen)}, 1},
		{[]api.Term{instance(true, true)}, 2}, // its class's namespace, and the key table
		{[]api.Term{term(api.ValDict), term(api.ValKeys, 0), term(api.ValTuple, 0), term(api.ValList, 0, 3)}, 1},
		{append(intTerms(6), term(api.ValSet, span(0, 6)...)), 2}, // five of 2^3 cells
	} {
		m.Take()
		build(t, s, r.terms...)
		if got := m.Take().Tables; got != r.tables {
			t.Errorf("P19.1: %v: %d tables, want %d", r.terms, got, r.tables)
		}
	}
	x := build(t, s, instance(false, false))[0]
	m.Take()
	space := s.Get(x).(*store.Instance).Space
	is(t, "P19.1: a name", []api.Errno{space.Set("a", x), space.Set("b", x)}, []api.Errno{api.OK, api.OK})
	is(t, "P19.1: shared names", []any{space.Shared(), m.Take().Values}, "[true 2]")
	space.Set("c", x)
	is(t, "P19.1: one name more than may be shared", []any{space.Shared(), m.Take().Shifts}, "[false 1]")
	other := build(t, fresh(t, rules(9), nil), term(api.ValSet))
	is(t, "P19.1: a nil Meter", []any{len(other), m.Read()}, []any{1, api.Counts{}})
}

// TestP19_1Bounds: of Dicts by Build, of Spaces by hand.
func TestP19_1Bounds(t *testing.T) {
	for pairs := range 4 {
		s := fresh(t, api.Rules{Pairs: pairs, Shared: 9}, nil)
		v := build(t, s, instance(false, false), term(api.ValDict))
		space, dict := s.Get(v[0]).(*store.Instance).Space, s.Get(v[1]).(*store.Dict)
		for n := range pairs {
			is(t, "P19.1: a name", space.Set(fmt.Sprint(n), 0), api.OK)
			is(t, "P19.1: a pair", dict.Begin(api.GoalPut, n, n, n).Step().Kind, api.TurnDone)
		}
		is(t, "P19.1: one name more", space.Set("x", 0), api.ErrFull)
		is(t, "P19.1: one pair more", dict.Begin(api.GoalPut, 99, 99, 0).Step().Kind, api.TurnFull)
	}
	s := fresh(t, api.Rules{Pairs: 9}, nil)
	space := s.Get(build(t, s, instance(false, false))[0]).(*store.Instance).Space
	is(t, "P19.1: none shared", []any{space.Shared(), space.Set("a", 0), space.Shared()}, "[true 0 false]")
}

// TestP19_2NoTerms: nothing is made of nothing.
func TestP19_2NoTerms(t *testing.T) {
	s := fresh(t, rules(5), nil)
	for _, list := range [][]api.Term{nil, {}} {
		v, e := s.Build(list)
		is(t, "P19.2: no terms", []any{len(v), e, s.Live()}, "[0 0 0]")
	}
	is(t, "P19.2: the next number", tags(s, build(t, s, term(api.ValTuple))...), "#1")
}

// TestP19_2Order: values and numbers come in the order of the terms, a class
// ahead of its instance.
func TestP19_2Order(t *testing.T) {
	s, v := built(t, term(api.ValTuple), intTerm(1), instance(true, false), term(api.ValList), term(api.ValDict), term(api.ValItems, 4), instance(false, false), term(api.ValSet), term(api.ValFrozen))
	is(t, "P19.2: tags", tags(s, v...), "#1 1 #3 #4 #5 #6 #8 #9 #10")
	is(t, "P19.2: Live", s.Live(), 10)
	for i, a := range v {
		for k, b := range v {
			if i != k && a == b {
				t.Errorf("P19.2: terms %d and %d have one value", i, k)
			}
		}
	}
	v = build(t, s, term(api.ValList), instance(true, true))
	is(t, "P19.2: numbers of a second call", tags(s, v...), "#11 #13")
}

// classOf is the class of an instance.
func classOf(t *testing.T, s *store.Store, v int) (int, *store.Class) {
	t.Helper()
	x, ok := s.Get(v).(*store.Instance)
	if !ok {
		t.Fatalf("%d is no instance", v)
	}
	class, ok := s.Get(x.Class).(*store.Class)
	if !ok {
		t.Fatalf("%d is no class", x.Class)
	}
	return x.Class, class
}

// TestP19_2Classes: each instance has a class of its own, which says what its
// term says.
func TestP19_2Classes(t *testing.T) {
	s, v := built(t, instance(false, false), instance(true, false), instance(false, true), instance(true, true))
	for i, x := range v {
		number, class := classOf(t, s, x)
		is(t, "P19.2: the class's number", s.Number(number), s.Number(x)-1)
		is(t, "P19.2: what it is", []any{class.Name, class.Base, class.Len(), s.Kind(number)}, []any{"C", store.Nothing, 0, api.ValClass})
		is(t, "P19.2: what it says", []bool{class.Hash, class.Same}, []bool{i%2 == 1, i >= 2})
	}
}

// TestP19_2Lists: a list's Kids may be any terms, itself and those behind it
// too.
func TestP19_2Lists(t *testing.T) {
	s, v := built(t, term(api.ValList, 0), term(api.ValList, 3, 2, 1, 0), term(api.ValList), strTerm("z"), term(api.ValTuple, 1, 1))
	is(t, "P19.2: itself", s.Parts(v[0]), []int{v[0]})
	is(t, "P19.2: behind, itself, ahead", s.Parts(v[1]), []int{v[3], v[2], v[1], v[0]})
	is(t, "P19.2: none", s.Parts(v[2]), []int{})
	is(t, "P19.2: a tuple", s.Parts(v[4]), []int{v[1], v[1]})
	is(t, "P19.2: numbers", tags(s, v...), "#1 #2 #3 'z' #4")
	is(t, "P19.2: Len of a list within itself", []any{size(s, v[0]), s.Truth(v[0])}, "[1 0 true]")
	s, v = built(t, term(api.ValList, 1), term(api.ValList, 0))
	is(t, "P19.2: two within each other", []any{s.Parts(v[0]), s.Parts(v[1])}, []any{[]int{v[1]}, []int{v[0]}})
}

// TestP19_2OtherRows: what a row does not name for its kind is not looked at.
func TestP19_2OtherRows(t *testing.T) {
	long := api.Int{Neg: true, Mag: slices.Repeat([]uint32{9}, api.MaxLimbs+5)}
	full := func(x api.Term) api.Term {
		if x.Kind != api.ValBool {
			x.Bool = true
		}
		if x.Kind != api.ValInt && !(x.Kind == api.ValInstance && x.Hash) {
			x.Num = long
		}
		if x.Kind != api.ValStr {
			x.Text = "\xff" + strings.Repeat("x", api.MaxText)
		}
		if x.Kind != api.ValInstance {
			x.Hash, x.Same = true, true
		}
		if len(x.Kids) == 0 {
			x.Kids = []int{}
		}
		return x
	}
	plainTerms := []api.Term{noneTerm(), boolTerm(false), intTerm(-5), strTerm("a"), term(api.ValTuple, 0, 1), term(api.ValList, 6), term(api.ValDict, 0, 1), term(api.ValSet, 2, 3), term(api.ValFrozen), instance(false, false), term(api.ValKeys, 6), term(api.ValValues, 6), term(api.ValItems, 6), hashing(3)}
	var filled []api.Term
	for _, x := range plainTerms {
		filled = append(filled, full(x))
	}
	told := func(terms []api.Term) (list []string) {
		s, v := built(t, terms...)
		for _, x := range v {
			list = append(list, fmt.Sprint(s.Kind(x), s.Tag(x), s.Truth(x), size(s, x), parts(s, x)))
		}
		return list
	}
	is(t, "P19.2: rows that a kind does not name", told(filled), told(plainTerms))
	s, v := built(t, full(noneTerm()), full(boolTerm(false)), full(strTerm("")))
	is(t, "P19.2: plain ones", tags(s, v...), "None False ''")
}

// TestP19_2Hashing: the Num of an instance that says __hash__ may be any Int.
func TestP19_2Hashing(t *testing.T) {
	for _, num := range []api.Int{{}, {Neg: true}, whole.Of(-1), whole.Of(math.MinInt), {Mag: []uint32{5, 0, 0}}, {Neg: true, Mag: slices.Repeat([]uint32{7}, 3*api.MaxLimbs)}} {
		s, v := built(t, api.Term{Kind: api.ValInstance, Hash: true, Num: num}, term(api.ValSet, 0))
		pairs := s.Get(v[1]).(*store.Set).Pairs()
		is(t, "P19.2: the hash", []int{len(pairs), pairs[0].Hash, pairs[0].Key, pairs[0].Value}, []int{1, digest.Whole(num), v[0], 0})
	}
}

// hashes is those that a dictionary keeps.
func hashes(s *store.Store, v int) []int {
	var list []int
	dict, _ := s.Get(v).(*store.Dict)
	if dict == nil {
		return nil
	}
	for _, pair := range dict.Pairs() {
		list = append(list, pair.Hash)
	}
	return list
}

// TestP19_2KeyHashes: of each kind of simple key (P19.9, too: alike ones have
// one hash).
func TestP19_2KeyHashes(t *testing.T) {
	s := fresh(t, rules(20), nil)
	v := build(t, s, noneTerm(), boolTerm(true), boolTerm(false), intTerm(-1), intTerm(1<<61), strTerm(""), strTerm("a"), instance(false, false), hashing(-9), instance(true, true),
		term(api.ValDict, 0, 0, 1, 0, 2, 0, 3, 0, 4, 0, 5, 0, 6, 0, 7, 0, 8, 0, 9, 0))
	want := []int{-7, 1, 0, -2, 1, digest.Text(""), digest.Text("a"), digest.Number(2), -9, 0}
	is(t, "P19.2: hashes", hashes(s, v[10]), want)
	is(t, "P19.2: keys", s.Parts(v[10]), []int{v[0], v[0], v[1], v[0], v[2], v[0], v[3], v[0], v[4], v[0], v[5], v[0], v[6], v[0], v[7], v[0], v[8], v[0], v[9], v[0]})
	v = build(t, s, intTerm(1), intTerm(0), term(api.ValDict, 0, 0, 1, 0))
	is(t, "P19.9: of ints that are alike to bools", hashes(s, v[2]), []int{1, 0})
}

// TestP19_2AlikeKeys: the first key stays, its value turns.
func TestP19_2AlikeKeys(t *testing.T) {
	for _, r := range []struct {
		first, second api.Term
		want          string
	}{
		{intTerm(1), boolTerm(true), "1 'b'"},
		{boolTerm(true), intTerm(1), "True 'b'"},
		{intTerm(0), boolTerm(false), "0 'b'"},
		{boolTerm(false), intTerm(0), "False 'b'"},
		{boolTerm(false), words(true, 0, 0), "False 'b'"},
		{words(false, 1, 0, 0), intTerm(1), "1 'b'"},
		{intTerm(5), words(false, 5, 0), "5 'b'"},
		{intTerm(-5), intTerm(-5), "-5 'b'"},
		{words(true, 1, 2, 3), words(true, 1, 2, 3, 0), "-55340232229718589441 'b'"},
		{strTerm("k"), strTerm("k"), "'k' 'b'"},
		{strTerm(""), strTerm(""), "'' 'b'"},
		{noneTerm(), noneTerm(), "None 'b'"},
		{boolTerm(true), boolTerm(true), "True 'b'"},
		{intTerm(1), boolTerm(false), "1 'a' False 'b'"},
		{intTerm(0), boolTerm(true), "0 'a' True 'b'"},
		{intTerm(5), intTerm(-5), "5 'a' -5 'b'"},
		{strTerm("1"), intTerm(1), "'1' 'a' 1 'b'"},
		{strTerm(""), noneTerm(), "'' 'a' None 'b'"},
		{noneTerm(), boolTerm(false), "None 'a' False 'b'"},
		{words(false, 0, 1), intTerm(0), "4294967296 'a' 0 'b'"},
		{words(false, 1, 1), intTerm(1), "4294967297 'a' 1 'b'"},
		{strTerm("a"), strTerm("b"), "'a' 'a' 'b' 'b'"},
		{strTerm("\u00e9"), strTerm("e\u0301"), "'\u00e9' 'a' 'e\u0301' 'b'"},
		{intTerm(1), words(false, 0xffffffff, 0x1fffffff), "1 'a' 2305843009213693951 'b'"},
		{intTerm(0), words(false, 0xffffffff, 0x1fffffff), "0 'a' 2305843009213693951 'b'"}, // one hash
	} {
		s, v := built(t, r.first, r.second, strTerm("a"), strTerm("b"), term(api.ValDict, 0, 2, 1, 3), term(api.ValSet, 0, 1), term(api.ValFrozen, 1, 0))
		is(t, "P19.2: a dict", parts(s, v[4]), r.want)
		count := len(strings.Fields(r.want)) / 2
		is(t, "P19.2: "+r.want, []any{size(s, v[4]), size(s, v[5]), size(s, v[6])}, []any{fmt.Sprint(count, " 0"), fmt.Sprint(count, " 0"), fmt.Sprint(count, " 0")})
		is(t, "P19.2: the first one stays", []int{s.Parts(v[4])[0], s.Parts(v[5])[0], s.Parts(v[6])[0]}, []int{v[0], v[0], v[1]})
		// The very same term, told twice.
		s, v = built(t, r.first, strTerm("a"), strTerm("b"), term(api.ValDict, 0, 1, 0, 2, 0, 1))
		is(t, "P19.2: one key thrice", s.Parts(v[3]), []int{v[0], v[1]})
	}
}

// TestP19_2InPlace: a value is turned where its key stands; an element stays
// where it stands.
func TestP19_2InPlace(t *testing.T) {
	s, v := built(t, intTerm(1), intTerm(2), intTerm(3), boolTerm(true), intTerm(2), term(api.ValDict, 0, 0, 1, 0, 2, 0, 3, 1, 4, 2), term(api.ValSet, 2, 1, 3, 0, 4, 2))
	is(t, "P19.2: a dict", parts(s, v[5]), "1 2 2 3 3 1")
	is(t, "P19.2: a set", parts(s, v[6]), "3 2 True")
	is(t, "P19.2: versions", []int{s.Get(v[5]).(*store.Dict).Version(), s.Get(v[6]).(*store.Set).Version()}, []int{5, 6})
	is(t, "P19.2: a value of any kind", tags(s, s.Parts(build(t, s, intTerm(1), term(api.ValList, 0, 1), term(api.ValDict), term(api.ValItems, 2), term(api.ValDict, 0, 1, 0, 3))[4])...), "1 #5")
}

// TestP19_2InstanceKeys: nobody is asked: an instance is alike to itself
// alone, whatever its hash and its class are.
func TestP19_2InstanceKeys(t *testing.T) {
	for what, list := range map[string][2]api.Term{
		"neither":            {instance(false, false), instance(false, false)},
		"Hash":               {hashing(3), hashing(4)},
		"Hash, of one hash":  {hashing(3), hashing(3)},
		"Hash and Same":      {instance(true, true), instance(true, true)},
		"Hash, and neither":  {hashing(3), instance(false, false)},
		"an int of its hash": {hashing(3), intTerm(3)},
	} {
		s, v := built(t, list[0], list[1], term(api.ValDict, 0, 1, 1, 0, 0, 0), term(api.ValSet, 1, 0, 1))
		is(t, "P19.2: "+what, []any{s.Parts(v[2]), s.Parts(v[3])}, []any{[]int{v[0], v[0], v[1], v[0]}, []int{v[1], v[0]}})
	}
	s := fresh(t, rules(3), nil)
	for what, list := range map[string][]api.Term{
		"Same alone":                {instance(false, true), term(api.ValSet, 0)},
		"Same alone, behind others": {intTerm(1), instance(false, true), term(api.ValFrozen, 0, 0, 1)},
		"Same alone, in a dict":     {intTerm(1), instance(false, true), term(api.ValDict, 0, 1, 1, 0)},
		"a tuple":                   {term(api.ValTuple), term(api.ValSet, 0)},
		"a list":                    {term(api.ValList), term(api.ValDict, 0, 0)},
		"a dict":                    {term(api.ValDict), term(api.ValSet, 0)},
		"a set":                     {term(api.ValSet), term(api.ValSet, 0)},
		"a frozen set":              {term(api.ValFrozen), term(api.ValSet, 0)},
		"a view":                    {term(api.ValDict), term(api.ValKeys, 0), term(api.ValSet, 1)},
	} {
		v, e := s.Build(list)
		is(t, "P19.2: "+what, []any{len(v), e, s.Live()}, []any{0, api.ErrArg, 0})
	}
	s, v := built(t, instance(false, true), intTerm(1), term(api.ValDict, 1, 0), term(api.ValTuple, 0))
	is(t, "P19.2: Same alone as a value", s.Parts(v[2]), []int{v[1], v[0]})
}

// TestP19_2Pairs: as many pairs as there may be, and one more; alike keys
// count once.
func TestP19_2Pairs(t *testing.T) {
	for pairs := range 5 {
		s := fresh(t, rules(pairs), nil)
		ones := []api.Term{boolTerm(true), intTerm(1), words(false, 1, 0), boolTerm(false), words(true, 0)}
		ints := intTerms(pairs + 1)
		terms := append(ones, ints...)
		at := len(ones)
		exact := span(at, pairs)
		if pairs > 0 { // 0 is there
			exact = append(exact, 3, 4, at)
		}
		if pairs > 1 { // and 1
			exact = append([]int{0, 1, 2}, append(exact, 0, 1, 2)...)
		}
		for _, kind := range []int{api.ValSet, api.ValFrozen} {
			v := build(t, s, append(slices.Clone(terms), term(kind, exact...))...)
			is(t, "P19.2: as many as there may be", size(s, v[len(v)-1]), fmt.Sprint(pairs, " 0"))
			list, e := s.Build(append(slices.Clone(terms), term(kind, append(slices.Clone(exact), at+pairs)...)))
			is(t, "P19.2: one more", []any{len(list), e}, []any{0, api.ErrBig})
		}
		var dict []int
		for _, k := range exact {
			dict = append(dict, k, 0)
		}
		v := build(t, s, append(slices.Clone(terms), term(api.ValDict, dict...))...)
		is(t, "P19.2: as many pairs as there may be", size(s, v[len(v)-1]), fmt.Sprint(pairs, " 0"))
		list, e := s.Build(append(slices.Clone(terms), term(api.ValDict, append(dict, at+pairs, at)...)))
		is(t, "P19.2: one pair more", []any{len(list), e}, []any{0, api.ErrBig})
	}
}

// TestP19_2UnlikeKeys: keys that are near to each other count each.
func TestP19_2UnlikeKeys(t *testing.T) {
	keys := []api.Term{noneTerm(), boolTerm(true), boolTerm(false), intTerm(-1), intTerm(2), words(false, 0, 1), words(false, 1, 1), words(true, 0, 1), words(false, 0, 0, 1), words(false, 0x2b), words(false, 1<<8), words(false, 1<<16), words(false, 1<<24), words(false, 2<<24), words(false, 0xffffffff, 0x1fffffff), strTerm(""), strTerm("1"), strTerm("+"), strTerm("+\x01\x00\x00\x00"), strTerm("None"), hashing(0), hashing(0), hashing(1), instance(false, false), instance(false, false), instance(true, true)}
	n := len(keys)
	terms := append(keys, term(api.ValSet, span(0, n)...))
	s := fresh(t, rules(n), nil)
	v := build(t, s, terms...)
	is(t, "P19.2: unlike keys", s.Parts(v[n]), v[:n])
	s = fresh(t, rules(n-1), nil)
	_, e := s.Build(terms)
	is(t, "P19.2: one too many", e, api.ErrBig)
}

func TestP19_2MostPairs(t *testing.T) {
	s := fresh(t, rules(api.MaxPairs), nil)
	terms := append(intTerms(api.MaxPairs), boolTerm(true), intTerm(5))
	all := span(0, len(terms))
	v := build(t, s, append(slices.Clone(terms), term(api.ValSet, all...))...)
	is(t, "P19.2: MaxPairs", size(s, v[len(v)-1]), fmt.Sprint(api.MaxPairs, " 0"))
	terms = append(terms, strTerm("one more"))
	_, e := s.Build(append(terms, term(api.ValFrozen, append(all, len(terms)-1)...)))
	is(t, "P19.2: MaxPairs and one", e, api.ErrBig)
}

func TestP19_2Strs(t *testing.T) {
	s := fresh(t, rules(3), nil)
	for what, r := range map[string]struct {
		text string
		e    api.Errno
	}{
		"MaxText runes":               {strings.Repeat("x", api.MaxText), api.OK},
		"MaxText long runes":          {strings.Repeat("\U0001f600", api.MaxText), api.OK},
		"one more":                    {strings.Repeat("x", api.MaxText+1), api.ErrBig},
		"one long rune more":          {strings.Repeat("\u00e9", api.MaxText) + "x", api.ErrBig},
		"a bad byte":                  {"a\xffb", api.ErrArg},
		"a rune that is cut":          {"\u00e9"[:1], api.ErrArg},
		"a half of a pair":            {"\xed\xa0\x80", api.ErrArg},
		"bad, and too long":           {strings.Repeat("x", api.MaxText+1) + "\xff", api.ErrArg},
		"U+FFFD":                      {"\ufffd", api.OK},
		"a byte 0":                    {"\x00", api.OK},
		"nothing":                     {"", api.OK},
		"MaxText runes and a bad one": {strings.Repeat("x", api.MaxText) + "\x80", api.ErrArg},
	} {
		v, e := s.Build([]api.Term{strTerm(r.text)})
		if e != r.e || (len(v) == 1) != (e == api.OK) {
			t.Errorf("P19.2: %s: %v, %d", what, v, e)
		}
		if e == api.OK {
			is(t, "P19.4: "+what, size(s, v[0]), fmt.Sprint(len([]rune(r.text)), " 0"))
		}
	}
}

func TestP19_2Ints(t *testing.T) {
	s := fresh(t, rules(3), nil)
	most := slices.Repeat([]uint32{math.MaxUint32}, api.MaxLimbs)
	for what, r := range map[string]struct {
		mag []uint32
		e   api.Errno
	}{
		"MaxLimbs words":               {most, api.OK},
		"MaxLimbs words, and zeros":    {append(slices.Clone(most), 0, 0, 0), api.OK},
		"one word more":                {append(slices.Clone(most), 1), api.ErrBig},
		"one word more, and zeros":     {append(slices.Clone(most), 1, 0), api.ErrBig},
		"the least long one":           {append(make([]uint32, api.MaxLimbs), 1), api.ErrBig},
		"many zeros":                   {make([]uint32, 5*api.MaxLimbs), api.OK},
		"a word that stands far ahead": {append(make([]uint32, api.MaxLimbs-1), 1), api.OK},
	} {
		for _, neg := range []bool{false, true} {
			v, e := s.Build([]api.Term{words(neg, r.mag...)})
			if e != r.e || (len(v) == 1) != (e == api.OK) {
				t.Errorf("P19.2: %s: %v, %d", what, v, e)
			}
			if e == api.OK {
				is(t, "P19.3: "+what, s.Tag(v[0]), whole.Text(api.Int{Neg: neg, Mag: r.mag}))
			}
		}
	}
	x := build(t, s, words(true, 0, 0), words(false), words(true, 7, 0))
	is(t, "P19.2: forms", tags(s, x...), "0 0 -7")
	is(t, "P19.4: of forms", []bool{s.Truth(x[0]), s.Truth(x[1]), s.Truth(x[2])}, "[false false true]")
}

func TestP19_2Rows(t *testing.T) {
	s := fresh(t, rules(3), nil)
	for _, kind := range []int{api.ValTuple, api.ValList} {
		v := build(t, s, intTerm(4), term(kind, make([]int, api.MaxItems)...))
		is(t, "P19.2: MaxItems", []any{size(s, v[1]), len(s.Parts(v[1]))}, []any{fmt.Sprint(api.MaxItems, " 0"), api.MaxItems})
		list, e := s.Build([]api.Term{intTerm(4), term(kind, make([]int, api.MaxItems+1)...)})
		is(t, "P19.2: one more", []any{len(list), e}, []any{0, api.ErrBig})
	}
	// As many Kids as one likes, where they are no values of a row.
	v := build(t, s, intTerm(4), term(api.ValSet, make([]int, api.MaxItems+1)...), term(api.ValDict, make([]int, 2*api.MaxItems+2)...))
	is(t, "P19.2: one key often", []string{size(s, v[1]), size(s, v[2])}, "[1 0 1 0]")
}

// TestP19_2Kinds: which kinds Build makes, and which have Kids.
func TestP19_2Kinds(t *testing.T) {
	makes := []int{api.ValNone, api.ValBool, api.ValInt, api.ValStr, api.ValTuple, api.ValList, api.ValDict, api.ValSet, api.ValFrozen, api.ValInstance, api.ValKeys, api.ValValues, api.ValItems}
	views := []int{api.ValKeys, api.ValValues, api.ValItems}
	kidless := []int{api.ValNone, api.ValBool, api.ValInt, api.ValStr, api.ValInstance}
	s := fresh(t, rules(3), nil)
	for _, kind := range append(span(-3, 40), math.MinInt, math.MaxInt, 1<<32+1, 255) {
		if slices.Contains(views, kind) {
			continue
		}
		v, e := s.Build([]api.Term{term(kind)})
		if !slices.Contains(makes, kind) {
			is(t, fmt.Sprint("P19.2: kind ", kind), []any{len(v), e}, []any{0, api.ErrKind})
		} else {
			is(t, fmt.Sprint("P19.2: kind ", kind), []any{len(v), e, s.Kind(v[0])}, []any{1, api.OK, kind})
		}
	}
	live := s.Live()
	for _, kind := range kidless {
		_, e := s.Build([]api.Term{noneTerm(), term(kind, 0)})
		is(t, fmt.Sprint("P19.2: Kids of kind ", kind), e, api.ErrArg)
	}
	for _, kind := range views {
		for _, kids := range [][]int{{}, {0, 0}, {0, 1}, {1}, {2}, {3}, {4}, {-1}, {0, 0, 0}, {9}} {
			_, e := s.Build([]api.Term{term(api.ValDict), term(api.ValSet), noneTerm(), instance(false, false), term(api.ValKeys, 0), term(kind, kids...)})
			is(t, fmt.Sprint("P19.2: a view ", kind, " of ", kids), e, api.ErrArg)
		}
	}
	is(t, "P19.2: Live behind what was refused", s.Live(), live)
}

// TestP19_2KidNumbers: which terms a Kid may be.
func TestP19_2KidNumbers(t *testing.T) {
	for _, kind := range []int{api.ValTuple, api.ValList, api.ValSet, api.ValFrozen, api.ValDict, api.ValKeys} {
		for kid, ahead := range map[int]bool{-1: false, math.MinInt: false, 0: true, 1: false, 2: false, 3: false, math.MaxInt: false, 1 << 32: false} {
			first := intTerm(3)
			kids := []int{kid}
			if kind == api.ValKeys {
				first = term(api.ValDict)
			}
			if kind == api.ValDict {
				kids = []int{0, kid}
			}
			s := fresh(t, rules(3), nil)
			_, e := s.Build([]api.Term{first, term(kind, kids...), noneTerm()})
			want := api.ErrArg
			if ahead || kind == api.ValList && (kid == 1 || kid == 2) {
				want = api.OK
			}
			is(t, fmt.Sprint("P19.2: kind ", kind, ", Kid ", kid), e, want)
		}
	}
	for _, kids := range [][]int{{0, 0, -1}, {0, 3}, {-1, 0}, {0, 0, 0, 3}, {0}, {0, 0, 0}} {
		s := fresh(t, rules(3), nil)
		_, e := s.Build([]api.Term{intTerm(1), term(api.ValDict, kids...)})
		is(t, fmt.Sprint("P19.2: a dict of ", kids), e, api.ErrArg)
	}
}

// faults is terms that are refused, behind an int, an instance that says __eq__
// alone, a dict, and a tuple.
func faults() map[string]struct {
	term api.Term
	e    api.Errno
} {
	long := strings.Repeat("x", api.MaxText+1)
	many := make([]int, api.MaxItems+1)
	return map[string]struct {
		term api.Term
		e    api.Errno
	}{
		"a kind":                      {term(api.ValFunc), api.ErrKind},
		"no kind":                     {term(0), api.ErrKind},
		"a kind, with Kids":           {term(api.ValClass, -1), api.ErrKind},
		"a Kid":                       {term(api.ValTuple, -1), api.ErrArg},
		"a bad text":                  {strTerm("\xff"), api.ErrArg},
		"a bad and long text":         {strTerm(long + "\xff"), api.ErrArg},
		"an odd dict":                 {term(api.ValDict, 0), api.ErrArg},
		"no key":                      {term(api.ValSet, 3), api.ErrArg},
		"a view of an int":            {term(api.ValItems, 0), api.ErrArg},
		"Kids of a Bool":              {term(api.ValBool, 0), api.ErrArg},
		"Kids of a long Str":          {api.Term{Kind: api.ValStr, Text: long, Kids: []int{0}}, api.ErrArg},
		"Kids of a long Int":          {api.Term{Kind: api.ValInt, Num: api.Int{Mag: slices.Repeat([]uint32{1}, api.MaxLimbs+1)}, Kids: []int{0}}, api.ErrArg},
		"too many, and one bad":       {term(api.ValTuple, append(slices.Clone(many), -1)...), api.ErrArg},
		"too many keys, no key":       {term(api.ValSet, 0, 0, 0, 0, 0, 3), api.ErrArg},
		"an odd dict, with bad Kids":  {term(api.ValDict, 0, 0, -1), api.ErrArg},
		"a long text":                 {strTerm(long), api.ErrBig},
		"a long int":                  {words(false, slices.Repeat([]uint32{1}, api.MaxLimbs+1)...), api.ErrBig},
		"a long tuple":                {term(api.ValTuple, many...), api.ErrBig},
		"a long list":                 {term(api.ValList, many...), api.ErrBig},
		"a key that says __eq__ only": {term(api.ValDict, 1, 0), api.ErrArg},
	}
}

// TestP19_2Refused: each error in a first, a middle and a last term: nothing
// is made then, no number given, nothing counted.
func TestP19_2Refused(t *testing.T) {
	ahead := []api.Term{intTerm(5), instance(false, true), term(api.ValDict, 0, 0), term(api.ValTuple, 0)}
	behind := []api.Term{term(api.ValList), instance(true, true), term(api.ValSet)}
	for what, f := range faults() {
		for place, list := range map[string][]api.Term{
			"last":   append(slices.Clone(ahead), f.term),
			"middle": append(append(slices.Clone(ahead), f.term), behind...),
			"first":  append(append([]api.Term{f.term}, ahead...), behind...),
			"twice":  append(append(slices.Clone(ahead), f.term), term(99), strTerm("\xff")),
		} {
			want := f.e
			if place == "first" && f.term.Kind == api.ValTuple {
				want = api.ErrArg // its Kids are no terms ahead of it then
			}
			refusedWhole(t, what+", "+place, list, want)
		}
	}
}

// refusedWhole fails unless a Build is refused, and no trace of it is left.
func refusedWhole(t *testing.T, what string, list []api.Term, want api.Errno) {
	t.Helper()
	m := &meter.Meter{}
	s := fresh(t, rules(4), m)
	old := build(t, s, term(api.ValTuple), intTerm(8))
	before, live := m.Read(), s.Live()
	v, e := s.Build(list)
	if e != want || v != nil {
		t.Errorf("P19.2: %s: %v, %d, want %d", what, v, e, want)
	}
	if s.Live() != live || m.Read() != before {
		t.Errorf("P19.2: %s: Live %d, the Meter %+v", what, s.Live(), m.Read())
	}
	for v := range 50 {
		if !slices.Contains(old, v) && s.Kind(v) != 0 {
			t.Errorf("P19.2: %s: %d is a value", what, v)
		}
	}
	is(t, "P19.2: "+what+": the next numbers", tags(s, build(t, s, term(api.ValList), instance(false, false))...), "#2 #4")
}

// TestP19_2FirstTerm: of several errors the first term's is told.
func TestP19_2FirstTerm(t *testing.T) {
	list := map[api.Errno]api.Term{api.ErrKind: term(77), api.ErrArg: strTerm("\x80"), api.ErrBig: term(api.ValList, make([]int, api.MaxItems+1)...)}
	for first, a := range list {
		for _, b := range list {
			refusedWhole(t, fmt.Sprint("first ", first), []api.Term{noneTerm(), a, b, term(api.ValTuple)}, first)
		}
	}
	// A Kid may be a term that is wrong itself: that is the first one then.
	refusedWhole(t, "a Kid that is wrong", []api.Term{term(0), term(api.ValKeys, 0)}, api.ErrKind)
	refusedWhole(t, "a list of what is wrong", []api.Term{term(api.ValList, 1), term(0)}, api.ErrKind)
	refusedWhole(t, "too many of them", []api.Term{intTerm(1), intTerm(2), intTerm(3), intTerm(4), strTerm("a"), term(api.ValSet, 0, 1, 2, 3, 4), term(0)}, api.ErrBig)
}

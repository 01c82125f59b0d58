package bulk_test

import (
	"fmt"
	"slices"
	"testing"

	"lexicon/api"
	"lexicon/bulk"
	"lexicon/store"
)

// kinds is a kit with a value of each kind, and their kinds.
func kinds(t *testing.T) (kit, []int) {
	t.Helper()
	k := built(t, num(1), none(), boolean(true), str("a"), tuple(0), list(0), dict(0, 0), set(0), frozen(0), plain(), keys(6), values(6), items(6))
	k.extras()
	list := make([]int, len(k.v))
	for i, v := range k.v {
		list[i] = k.Kind(v)
	}
	for kind := 1; kind <= api.ValCell; kind++ {
		if !slices.Contains(list, kind) {
			t.Fatalf("there is no value of the kind %d", kind)
		}
	}
	return k, list
}

var ops = []int{bulk.Update, bulk.Extend, bulk.Spread, bulk.Gather, bulk.Frozen, bulk.Or, bulk.And, bulk.Sub, bulk.Xor, bulk.Lt, bulk.Le, bulk.Gt, bulk.Ge}

// rows is the kinds of a and of b of each op's rows, as the chapter lists them.
func rows(op int) [][2][]int {
	sides := []int{api.ValSet, api.ValFrozen, api.ValKeys, api.ValItems}
	dicts := []int{api.ValDict}
	var any []int
	for kind := 1; kind <= api.ValCell; kind++ {
		any = append(any, kind)
	}
	switch op {
	case 101:
		return [][2][]int{{dicts, dicts}, {{api.ValSet}, append(sides, api.ValTuple, api.ValList, api.ValDict)}}
	case 102:
		return [][2][]int{{{api.ValList}, {api.ValTuple, api.ValList}}}
	case 103:
		return [][2][]int{{dicts, dicts}}
	case 104, 105:
		return [][2][]int{{any, append(sides, api.ValTuple, api.ValList, api.ValDict, api.ValStr)}}
	case 111:
		return [][2][]int{{sides, sides}, {dicts, dicts}}
	case 112, 113, 114, 115, 116, 117, 118:
		return [][2][]int{{sides, sides}}
	}
	return nil
}

// TestP21_1Kinds: each op with each kind of a and of b.
func TestP21_1Kinds(t *testing.T) {
	k, kinds := kinds(t)
	live := k.Live()
	for op := range 130 {
		for i, a := range k.v {
			for j, b := range k.v {
				want := false
				for _, row := range rows(op) {
					want = want || slices.Contains(row[0], kinds[i]) && slices.Contains(row[1], kinds[j])
				}
				if got := bulk.Start(k.Store, op, a, b) != nil; got != want {
					t.Errorf("P21.1: Start(%d) of the kinds %d, %d: %v", op, kinds[i], kinds[j], got)
				}
			}
		}
	}
	is(t, "P21.1: Start makes nothing", k.Live(), live)
}

// TestP21_1Nil: what there is no Machine of.
func TestP21_1Nil(t *testing.T) {
	k := built(t, num(1), set(0), dict(0, 0), list(0), str("a"))
	one, s, d, l, text := k.v[0], k.v[1], k.v[2], k.v[3], k.v[4]
	like := map[int][2]int{bulk.Update: {d, d}, bulk.Extend: {l, l}, bulk.Spread: {d, d}, bulk.Gather: {one, text}, bulk.Frozen: {one, s}}
	for _, op := range ops {
		x, ok := like[op]
		if !ok {
			x = [2]int{s, s}
		}
		what := fmt.Sprint("P21.1: op ", op)
		is(t, what, bulk.Start(k.Store, op, x[0], x[1]) != nil, true)
		is(t, what+" of a nil Store", bulk.Start(nil, op, x[0], x[1]) == nil, true)
		for _, no := range []int{-1, store.Nothing, 9999, -1 << 63, 1<<63 - 1} {
			is(t, what+" of no value a", bulk.Start(k.Store, op, no, x[1]) == nil, true)
			is(t, what+" of no value b", bulk.Start(k.Store, op, x[0], no) == nil, true)
			is(t, what+" of no values", bulk.Start(k.Store, op, no, no) == nil, true)
		}
	}
	for _, op := range []int{-1, 0, 1, 100, 106, 107, 108, 109, 110, 119, 120, 1 << 40, -bulk.Or} {
		is(t, fmt.Sprint("P21.1: op ", op), bulk.Start(k.Store, op, s, s) == nil, true)
	}
	k.Sweep([]int{one})
	is(t, "P21.1: of a value that is none any more", bulk.Start(k.Store, bulk.Or, s, s) == nil, true)
}

// TestP21_1Begins: what there is counts when the row begins, not in Start.
func TestP21_1Begins(t *testing.T) {
	k := built(t, num(1), num(2), set(0), set(1), list(0), tuple(1), dict(0, 0))
	or := k.start(t, bulk.Or, k.v[2], k.v[3])
	extend := k.start(t, bulk.Extend, k.v[4], k.v[4])
	gather := k.start(t, bulk.Gather, k.v[0], k.v[6])
	k.put(k.v[2], k.v[1], k.Hash(k.v[1]), 0)
	k.put(k.v[6], k.v[1], k.Hash(k.v[1]), 0)
	k.list(k.v[4]).Values = append(k.list(k.v[4]).Values, k.v[1])
	is(t, "P21.1: Or", k.parts(or.Step(many).Value), "8: 1 2")
	is(t, "P21.1: Or", or.Turns(), 3)
	is(t, "P21.1: Extend", extend.Step(many), ended(0))
	is(t, "P21.1: Extend", k.parts(k.v[4]), "6: 1 2 1 2")
	is(t, "P21.1: Gather", k.parts(gather.Step(many).Value), "8: 1 2")
}

// TestExamplesOfChapter21 is the chapter's Examples.
func TestExamplesOfChapter21(t *testing.T) {
	example := func() kit {
		return built(t, num(1), num(2), num(3), set(0, 1), frozen(1, 2), dict(0, 1), items(5), dict(1, 0), tuple(0, 1), str("aba"))
	}
	for _, x := range []struct {
		op, a, b int
		want     string
	}{
		{bulk.Or, 3, 4, "8: 1 2 3"},
		{bulk.And, 4, 3, "9: 2"},
		{bulk.Xor, 3, 4, "8: 1 3"},
		{bulk.Le, 3, 4, "no"},
		{bulk.Or, 5, 7, "7: 1 2 2 1"},
		{bulk.And, 6, 3, "8:"},
		{bulk.Gather, 0, 9, "8: 'a' 'b'"},
	} {
		k := example()
		got, turns := k.comes(t, x.op, k.v[x.a], k.v[x.b])
		is(t, fmt.Sprint("Examples: ", x.op, " of ", x.a, " and ", x.b), got, x.want)
		if x.a == 6 {
			is(t, "Examples: Turns", turns, 4)
		}
	}
	k := example()
	is(t, "Examples: Frozen of an int", bulk.Start(k.Store, bulk.Frozen, k.v[0], k.v[0]) == nil, true)
	is(t, "Examples: Extend of a tuple", bulk.Start(k.Store, bulk.Extend, k.v[8], k.v[8]) == nil, true)
}

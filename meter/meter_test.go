package meter_test

import (
	"math"
	"math/rand"
	"sync"
	"testing"

	"lexicon/api"
	"lexicon/meter"
)

var nothing = api.Counts{}

func plus(a, b api.Counts) api.Counts {
	return api.Counts{
		Tables: a.Tables + b.Tables,
		Cells:  a.Cells + b.Cells,
		Values: a.Values + b.Values,
		Shifts: a.Shifts + b.Shifts,
	}
}

// call is one call that counts, and what it counts.
type call struct {
	name  string
	does  func(m *meter.Meter)
	count api.Counts
}

func visit(name string, n, count int) call {
	return call{"Visit(" + name + ")", func(m *meter.Meter) { m.Visit(n) }, api.Counts{Cells: count}}
}

func charge(name string, n, count int) call {
	return call{"Charge(" + name + ")", func(m *meter.Meter) { m.Charge(n) }, api.Counts{Values: count}}
}

// calls are all that a Meter counts by, at ordinary numbers, at the edges and beyond them.
func calls() []call {
	all := []call{
		{"Table()", (*meter.Meter).Table, api.Counts{Tables: 1}},
		{"Turn()", (*meter.Meter).Turn, api.Counts{Shifts: 1}},
	}
	rows := []struct {
		name     string
		n, count int
	}{
		{"lowest", math.MinInt, 0},
		{"lowest but one", math.MinInt + 1, 0},
		{"-2^32", -1 << 32, 0},
		{"-MaxNumber", -api.MaxNumber, 0},
		{"-2", -2, 0},
		{"-1", -1, 0},
		{"0", 0, 0},
		{"1", 1, 1},
		{"2", 2, 2},
		{"65536", 65536, 65536},
		{"MaxNumber-1", api.MaxNumber - 1, api.MaxNumber - 1},
		{"MaxNumber", api.MaxNumber, api.MaxNumber},
		{"MaxNumber+1", api.MaxNumber + 1, 0},
		{"2^32+1", 1<<32 + 1, 0},
		{"highest", math.MaxInt, 0},
	}
	for _, r := range rows {
		all = append(all, visit(r.name, r.n, r.count), charge(r.name, r.n, r.count))
	}
	return all
}

func TestP4_1AZeroMeterHasCountedNothing(t *testing.T) {
	var plain meter.Meter
	if got := plain.Read(); got != nothing {
		t.Errorf("Read of a zero Meter: %v", got)
	}
	made := new(meter.Meter)
	if got := made.Take(); got != nothing {
		t.Errorf("Take of a zero Meter: %v", got)
	}
}

func TestP4_1WhatEachCallCounts(t *testing.T) {
	for _, c := range calls() {
		m := &meter.Meter{}
		c.does(m)
		if got := m.Read(); got != c.count {
			t.Errorf("%s: counted %v, not %v", c.name, got, c.count)
		}
		c.does(m)
		if got, want := m.Read(), plus(c.count, c.count); got != want {
			t.Errorf("%s twice: counted %v, not %v", c.name, got, want)
		}
	}
}

func TestP4_1CallsBehindOneAnotherAddUp(t *testing.T) {
	all := calls()
	for _, first := range all {
		for _, second := range all {
			m := &meter.Meter{}
			first.does(m)
			second.does(m)
			if got, want := m.Read(), plus(first.count, second.count); got != want {
				t.Errorf("%s, %s: counted %v, not %v", first.name, second.name, got, want)
			}
		}
	}
}

func TestP4_1CountsGoAboveMaxNumber(t *testing.T) {
	m := &meter.Meter{}
	for range 5 {
		m.Visit(api.MaxNumber)
		m.Charge(api.MaxNumber)
	}
	want := api.Counts{Cells: 5 * api.MaxNumber, Values: 5 * api.MaxNumber}
	if got := m.Read(); got != want {
		t.Errorf("counted %v, not %v", got, want)
	}
	if got := m.Take(); got != want {
		t.Errorf("took %v, not %v", got, want)
	}
}

func TestP4_2ReadChangesNothing(t *testing.T) {
	m := &meter.Meter{}
	want := nothing
	for _, c := range calls() {
		c.does(m)
		want = plus(want, c.count)
		for range 3 {
			if got := m.Read(); got != want {
				t.Fatalf("behind %s: Read %v, not %v", c.name, got, want)
			}
		}
	}
	if got := m.Take(); got != want {
		t.Errorf("Take behind many Reads: %v, not %v", got, want)
	}
}

func TestP4_2TakeBeginsAnew(t *testing.T) {
	for _, c := range calls() {
		m := &meter.Meter{}
		m.Table()
		m.Visit(5)
		m.Charge(6)
		m.Turn()
		before := plus(api.Counts{Tables: 1, Cells: 5, Values: 6, Shifts: 1}, c.count)
		c.does(m)
		if got := m.Take(); got != before {
			t.Errorf("%s: Take %v, not %v", c.name, got, before)
		}
		if got := m.Read(); got != nothing {
			t.Errorf("%s: Read behind Take: %v", c.name, got)
		}
		if got := m.Take(); got != nothing {
			t.Errorf("%s: a second Take: %v", c.name, got)
		}
		c.does(m)
		if got := m.Read(); got != c.count {
			t.Errorf("%s: Read of what came behind Take: %v, not %v", c.name, got, c.count)
		}
		if got := m.Take(); got != c.count {
			t.Errorf("%s: Take of what came behind Take: %v, not %v", c.name, got, c.count)
		}
	}
}

func TestP4_2TakeOfAZeroMeterTwice(t *testing.T) {
	m := &meter.Meter{}
	for range 2 {
		if got := m.Take(); got != nothing {
			t.Errorf("Take of a zero Meter: %v", got)
		}
	}
	m.Turn()
	if got, want := m.Read(), (api.Counts{Shifts: 1}); got != want {
		t.Errorf("Turn behind two Takes: %v, not %v", got, want)
	}
}

const (
	workers = 8
	rounds  = 3000
)

// countRound is one round of a worker: unlike counts, so that none is told for another.
func countRound(m *meter.Meter) {
	m.Table()
	m.Visit(2)
	m.Visit(-1)
	m.Charge(3)
	m.Charge(api.MaxNumber + 1)
	m.Turn()
	m.Turn()
}

var roundCounts = api.Counts{Tables: 1, Cells: 2, Values: 3, Shifts: 2}

func times(c api.Counts, n int) api.Counts {
	return api.Counts{Tables: c.Tables * n, Cells: c.Cells * n, Values: c.Values * n, Shifts: c.Shifts * n}
}

// countAtOnce lets several workers count, and answers when all are done.
func countAtOnce(m *meter.Meter) {
	var wait sync.WaitGroup
	for range workers {
		wait.Go(func() {
			for range rounds {
				countRound(m)
			}
		})
	}
	wait.Wait()
}

func TestP4_3NothingIsLostBeforeRead(t *testing.T) {
	m := &meter.Meter{}
	countAtOnce(m)
	if got, want := m.Read(), times(roundCounts, workers*rounds); got != want {
		t.Errorf("Read at the end: %v, not %v", got, want)
	}
}

func TestP4_3EachCountIsToldByOneTake(t *testing.T) {
	m := &meter.Meter{}
	const takers = 4
	done := make(chan struct{})
	took := make([]api.Counts, takers)
	var wait sync.WaitGroup
	for i := range takers {
		wait.Go(func() {
			for {
				took[i] = plus(took[i], m.Take())
				select {
				case <-done:
					return
				default:
				}
			}
		})
	}
	countAtOnce(m)
	close(done)
	wait.Wait()
	all := m.Read()
	for _, c := range took {
		all = plus(all, c)
	}
	if want := times(roundCounts, workers*rounds); all != want {
		t.Errorf("all Takes and the last Read: %v, not %v", all, want)
	}
}

// byTurns are two calls that one goroutine makes by turns, and what is told of them.
type byTurns struct {
	name   string
	first  func(m *meter.Meter)
	second func(m *meter.Meter)
	told   func(c api.Counts) (ofFirst, ofSecond int)
}

// pairs are such that the calls' counters lie far from one another, in both orders.
func pairs() []byTurns {
	return []byTurns{
		{"Table, Turn", (*meter.Meter).Table, (*meter.Meter).Turn, func(c api.Counts) (int, int) { return c.Tables, c.Shifts }},
		{"Turn, Table", (*meter.Meter).Turn, (*meter.Meter).Table, func(c api.Counts) (int, int) { return c.Shifts, c.Tables }},
	}
}

// watch calls tell, over and over, while another goroutine counts by turns: of the second call as many are told as of the first one, or one less.
func watch(t *testing.T, m *meter.Meter, p byTurns, tell func() api.Counts) {
	t.Helper()
	const many = 100000
	var wait sync.WaitGroup
	done := make(chan struct{})
	wait.Go(func() {
		defer close(done)
		for range many {
			p.first(m)
			p.second(m)
		}
	})
	defer wait.Wait()
	for {
		first, second := p.told(tell())
		if second > first || second < first-1 {
			t.Errorf("%s: told %d and %d", p.name, first, second)
			return
		}
		select {
		case <-done:
			if first, second := p.told(tell()); first != many || second != many {
				t.Errorf("%s: told %d and %d at the end", p.name, first, second)
			}
			return
		default:
		}
	}
}

func TestP4_3ReadIsDoneAsAWhole(t *testing.T) {
	for _, p := range pairs() {
		m := &meter.Meter{}
		watch(t, m, p, m.Read)
	}
}

func TestP4_3TakeIsDoneAsAWhole(t *testing.T) {
	for _, p := range pairs() {
		m := &meter.Meter{}
		sum := nothing
		watch(t, m, p, func() api.Counts {
			sum = plus(sum, m.Take())
			return sum
		})
	}
}

func TestP4_4OfANilMeterNothingIsCounted(t *testing.T) {
	var m *meter.Meter
	for _, c := range calls() {
		c.does(m)
		if got := m.Read(); got != nothing {
			t.Errorf("%s of a nil Meter: Read %v", c.name, got)
		}
		if got := m.Take(); got != nothing {
			t.Errorf("%s of a nil Meter: Take %v", c.name, got)
		}
	}
	countAtOnce(m)
	if got := m.Read(); got != nothing {
		t.Errorf("a nil Meter that many counted by: %v", got)
	}
}

func TestP4_5AllThatTakeToldAndReadTells(t *testing.T) {
	draw := rand.New(rand.NewSource(4))
	all := calls()
	for range 200 {
		m := &meter.Meter{}
		counted, took := nothing, nothing
		for range 100 {
			if draw.Intn(4) == 0 {
				took = plus(took, m.Take())
				continue
			}
			c := all[draw.Intn(len(all))]
			c.does(m)
			counted = plus(counted, c.count)
			if got := plus(took, m.Read()); got != counted {
				t.Fatalf("behind %s: took and Read %v, counted %v", c.name, got, counted)
			}
		}
	}
}

func TestP4_5TwoMetersHaveNothingInCommon(t *testing.T) {
	one, other := &meter.Meter{}, &meter.Meter{}
	ofOne, ofOther := nothing, nothing
	for i, c := range calls() {
		c.does(one)
		ofOne = plus(ofOne, c.count)
		countRound(other)
		ofOther = plus(ofOther, roundCounts)
		if got := one.Read(); got != ofOne {
			t.Fatalf("%s: the one: %v, not %v", c.name, got, ofOne)
		}
		if got := other.Read(); got != ofOther {
			t.Fatalf("%s: the other: %v, not %v", c.name, got, ofOther)
		}
		if i%3 == 0 {
			if got := one.Take(); got != ofOne {
				t.Fatalf("%s: Take of the one: %v, not %v", c.name, got, ofOne)
			}
			ofOne = nothing
		}
	}
	if got := other.Take(); got != ofOther {
		t.Errorf("Take of the other at the end: %v, not %v", got, ofOther)
	}
	if got := one.Read(); got != ofOne {
		t.Errorf("Read of the one at the end: %v, not %v", got, ofOne)
	}
}

func TestExamplesOfChapter4(t *testing.T) {
	m := &meter.Meter{}
	m.Table()
	m.Visit(3)
	m.Visit(-1)
	m.Charge(2)
	m.Turn()
	want := api.Counts{Tables: 1, Cells: 3, Values: 2, Shifts: 1}
	if got := m.Read(); got != want {
		t.Errorf("first row: %v, not %v", got, want)
	}
	if got := m.Take(); got != want {
		t.Errorf("second row, Take: %v, not %v", got, want)
	}
	if got := m.Read(); got != nothing {
		t.Errorf("second row, Read: %v", got)
	}
	var none *meter.Meter
	none.Table()
	if got := none.Read(); got != nothing {
		t.Errorf("second row, a nil one: %v", got)
	}
}

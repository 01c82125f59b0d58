package sweep_test

import (
	"math"
	"math/rand"
	"slices"
	"testing"

	"lexicon/slots"
	"lexicon/sweep"
)

// model is slots of lists of numbers: the taken ones, by their numbers.
type model map[int][]int

// reached is word by word what the chapter says: those in roots, and, as long as there is one more, those to which they lead.
func (m model) reached(roots []int) []int {
	in := map[int]bool{}
	for grown := true; grown; {
		grown = false
		from := slices.Clone(roots)
		for i := range in {
			from = append(from, m[i]...)
		}
		for _, i := range from {
			if _, taken := m[i]; taken && !in[i] {
				in[i], grown = true, true
			}
		}
	}
	return rising(in)
}

// others is the taken ones that are not in a list.
func (m model) others(list []int) []int {
	in := map[int]bool{}
	for i := range m {
		if !slices.Contains(list, i) {
			in[i] = true
		}
	}
	return rising(in)
}

func rising(in map[int]bool) []int {
	var list []int
	for i := range in {
		list = append(list, i)
	}
	slices.Sort(list)
	return list
}

// modelOf is what a table of slots has.
func modelOf(s *slots.Slots[[]int]) model {
	m := model{}
	for i, list := range s.All() {
		m[i] = slices.Clone(list)
	}
	return m
}

// is fails unless a table has just what the model has.
func (m model) is(t *testing.T, what string, s *slots.Slots[[]int]) {
	t.Helper()
	got := modelOf(s)
	if len(got) != len(m) || s.Len() != len(m) {
		t.Fatalf("%s: %d slots, want %d", what, len(got), len(m))
	}
	for i, list := range m {
		if v, ok := got[i]; !ok || !slices.Equal(v, list) {
			t.Fatalf("%s: slot %d has %v, %t, want %v", what, i, v, ok, list)
		}
	}
}

// anyNumbers is some numbers, of slots of a table most of them.
func anyNumbers(r *rand.Rand, most, high int) []int {
	var list []int
	for range r.Intn(most + 1) {
		i := r.Intn(high + 1)
		if r.Intn(8) == 0 {
			i = []int{math.MinInt, -high, -64, -1, high, high + 1, high + 64, 1 << 40, math.MaxInt}[r.Intn(9)]
		}
		list = append(list, i)
	}
	return list
}

// TestGames plays rounds on one table: slots come, are turned, go; it is marked from some roots, from more, and swept.
func TestGames(t *testing.T) {
	for seed := range 300 {
		r := rand.New(rand.NewSource(int64(seed)))
		s := slots.New[[]int]()
		sizes := []int{3, 10, 70, 200}
		size := sizes[r.Intn(len(sizes))]
		width := 1 + r.Intn(3)
		for range 12 {
			for range r.Intn(size) {
				s.Add(anyNumbers(r, width, size))
			}
			for range r.Intn(size) {
				s.Free(r.Intn(size))
			}
			for range r.Intn(size) {
				s.Set(r.Intn(size), anyNumbers(r, width, size))
			}
			round(t, r, s, size)
		}
	}
}

func round(t *testing.T, r *rand.Rand, s *slots.Slots[[]int], size int) {
	t.Helper()
	m, high := modelOf(s), s.High()
	roots := anyNumbers(r, 1+size/8, size)
	more := append(slices.Clone(roots), anyNumbers(r, 4, size)...)
	r.Shuffle(len(more), func(i, j int) { more[i], more[j] = more[j], more[i] })
	want, wantMore := m.reached(roots), m.reached(more)
	if got := sweep.Mark(s, roots, itself); !slices.Equal(got, want) {
		t.Fatalf("P12.1: Mark of %v: %v, want %v", roots, got, want)
	}
	if got := sweep.Mark(s, more, itself); !slices.Equal(got, wantMore) {
		t.Fatalf("P12.1: Mark of %v: %v, want %v", more, got, wantMore)
	}
	m.is(t, "P12.5: behind Mark", s)
	wantFreed, wantFewer := m.others(want), m.others(wantMore)
	fewer := sweep.Sweep(s, more, itself)
	if !slices.Equal(fewer, wantFewer) {
		t.Fatalf("P12.2: Sweep of %v: %v, want %v", more, fewer, wantFewer)
	}
	for _, i := range fewer {
		if !slices.Contains(wantFreed, i) {
			t.Fatalf("P12.5: with more roots slot %d is freed", i)
		}
		delete(m, i)
	}
	m.is(t, "P12.5: behind Sweep", s)
	if got := sweep.Sweep(s, more, itself); len(got) != 0 {
		t.Fatalf("P12.5: a second Sweep: %v", got)
	}
	m.is(t, "P12.5: behind a second Sweep", s)
	if s.High() != high {
		t.Fatalf("P12.2: High %d, was %d", s.High(), high)
	}
}

// TestPlanGames holds plans against the list itself.
func TestPlanGames(t *testing.T) {
	for seed := range 300 {
		r := rand.New(rand.NewSource(int64(seed)))
		var at []int
		for range r.Intn(30) {
			at = append(at, r.Intn(60)-10)
		}
		p := sweep.Force(at)
		for n := 1; n <= 70; n++ {
			if p.Count() != n-1 {
				t.Fatalf("P12.3: %v: Count %d ahead of number %d", at, p.Count(), n)
			}
			if got := p.Tick(); got != slices.Contains(at, n) {
				t.Fatalf("P12.3: %v: Tick number %d: %t", at, n, got)
			}
		}
	}
}

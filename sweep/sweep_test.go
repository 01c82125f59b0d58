package sweep_test

import (
	"fmt"
	"math"
	"runtime"
	"slices"
	"strings"
	"testing"
	"weak"

	"lexicon/slots"
	"lexicon/sweep"
)

func itself(list []int) []int { return list }

// filled is a table whose slots have these, by their numbers.
func filled[T any](values ...T) *slots.Slots[T] {
	s := slots.New[T]()
	for _, v := range values {
		s.Add(v)
	}
	return s
}

// free frees slots that are taken.
func free[T any](t *testing.T, s *slots.Slots[T], numbers ...int) {
	t.Helper()
	for _, i := range numbers {
		if !s.Free(i) {
			t.Fatalf("Free(%d): false", i)
		}
	}
}

// example is the slots of the chapter's examples.
func example() *slots.Slots[[]int] {
	return filled([]int{1, 2}, []int{0}, nil, []int{2}, []int{99})
}

// has is what a table has, in one text: "0 a, 2 c".
func has[T any](s *slots.Slots[T]) string {
	var parts []string
	for i, v := range s.All() {
		parts = append(parts, fmt.Sprint(i, " ", v))
	}
	return strings.Join(parts, ", ")
}

// outside is numbers of no slot, in a table of so many.
func outside(high int) []int {
	return []int{math.MinInt, math.MinInt + 1, -high - 1, -high - 64, -65, -64, -63, -2, -1, high, high + 1, high + 63, high + 64, high + 1000, 1 << 31, 1 << 32, math.MaxInt - 1, math.MaxInt}
}

// marked fails unless Mark tells these, and changes nothing.
func marked[T any](t *testing.T, what string, s *slots.Slots[T], roots []int, leads func(T) []int, want ...int) {
	t.Helper()
	before, high := has(s), s.High()
	for range 2 {
		if got := sweep.Mark(s, roots, leads); !slices.Equal(got, want) {
			t.Errorf("%s: Mark of %v: %v, want %v", what, roots, got, want)
		}
	}
	if after := has(s); after != before || s.High() != high {
		t.Errorf("%s: Mark changed %s to %s", what, before, after)
	}
}

// swept fails unless Sweep frees just these, and leaves what Mark told as it was.
func swept[T any](t *testing.T, what string, s *slots.Slots[T], roots []int, leads func(T) []int, want ...int) {
	t.Helper()
	high := s.High()
	stay := sweep.Mark(s, roots, leads)
	var parts []string
	for _, i := range stay {
		v, _ := s.Get(i)
		parts = append(parts, fmt.Sprint(i, " ", v))
	}
	left := strings.Join(parts, ", ")
	if got := sweep.Sweep(s, roots, leads); !slices.Equal(got, want) {
		t.Errorf("%s: Sweep of %v: %v, want %v", what, roots, got, want)
	}
	if got := has(s); got != left || s.Len() != len(stay) || s.High() != high {
		t.Errorf("%s: behind Sweep: %s, want %s", what, got, left)
	}
	for _, i := range want {
		if _, ok := s.Get(i); ok {
			t.Errorf("%s: slot %d is taken still", what, i)
		}
	}
	if got := sweep.Sweep(s, roots, leads); len(got) != 0 || has(s) != left {
		t.Errorf("%s: a second Sweep: %v, with %s left", what, got, has(s))
	}
}

// scene is a table and what is to be told of it.
type scene struct {
	name  string
	lists [][]int
	free  []int
	roots []int
	want  []int // by Mark
	freed []int // by Sweep
}

func scenes() []scene {
	return []scene{
		{"no slot", nil, nil, []int{0, 1}, nil, nil},
		{"no slot, no roots", nil, nil, nil, nil, nil},
		{"all slots free", [][]int{{1}, {0}}, []int{0, 1}, []int{0, 1}, nil, nil},
		{"no roots", [][]int{{1}, {0}, {2}}, nil, nil, nil, []int{0, 1, 2}},
		{"an empty list of roots", [][]int{{1}, {0}}, nil, []int{}, nil, []int{0, 1}},
		{"all are roots", [][]int{nil, nil, nil}, nil, []int{2, 0, 1}, []int{0, 1, 2}, nil},
		{"roots that stand twice", [][]int{{1}, nil, nil}, nil, []int{0, 1, 0, 0, 1}, []int{0, 1}, []int{2}},
		{"roots in falling order", [][]int{nil, nil, nil, nil}, nil, []int{3, 2, 0}, []int{0, 2, 3}, []int{1}},
		{"a root that is free", [][]int{{1}, {2}, nil, nil}, []int{0}, []int{0, 3}, []int{3}, []int{1, 2}},
		{"a free slot on the way", [][]int{{1, 3}, {2}, nil, nil}, []int{1}, []int{0}, []int{0, 3}, []int{2}},
		{"the last slot is free", [][]int{{1}, nil}, []int{1}, []int{0, 1}, []int{0}, nil},
		{"one that leads to itself", [][]int{{0, 0}, {1}}, nil, []int{0}, []int{0}, []int{1}},
		{"a ring", [][]int{{1}, {2}, {3}, {0}, {0}}, nil, []int{2}, []int{0, 1, 2, 3}, []int{4}},
		{"a ring that nobody leads to", [][]int{{1}, {2}, {1}}, []int{}, []int{}, nil, []int{0, 1, 2}},
		{"two rings that meet", [][]int{{1}, {0, 2}, {3}, {2, 1}, {4}}, nil, []int{3}, []int{0, 1, 2, 3}, []int{4}},
		{"numbers of none on the way", [][]int{append(outside(3), 2), nil, outside(3)}, nil, []int{0}, []int{0, 2}, []int{1}},
		{"numbers of none as roots", [][]int{nil, {0}, nil}, nil, append(outside(3), 1, -3), []int{0, 1}, []int{2}},
		{"nothing but numbers of none", [][]int{nil, nil}, nil, outside(2), nil, []int{0, 1}},
		{"many ways to one", [][]int{{1, 2, 3}, {4}, {4, 4}, {4}, nil, nil}, nil, []int{0}, []int{0, 1, 2, 3, 4}, []int{5}},
		{"falling numbers", [][]int{nil, {0}, {1}, {2}, nil}, nil, []int{3}, []int{0, 1, 2, 3}, []int{4}},
		{"only backwards", [][]int{{1}, {2}, {3}, nil}, nil, []int{2}, []int{2, 3}, []int{0, 1}},
	}
}

func (c scene) slots(t *testing.T) *slots.Slots[[]int] {
	t.Helper()
	s := filled(c.lists...)
	free(t, s, c.free...)
	return s
}

func TestP12_1Mark(t *testing.T) {
	for _, c := range scenes() {
		marked(t, c.name, c.slots(t), c.roots, itself, c.want...)
	}
}

func TestP12_2Sweep(t *testing.T) {
	for _, c := range scenes() {
		swept(t, c.name, c.slots(t), c.roots, itself, c.freed...)
	}
}

// TestP12_1Numbers: each number alone is told, or freed, at sizes around those of words.
func TestP12_1Numbers(t *testing.T) {
	for _, size := range []int{1, 2, 63, 64, 65, 127, 128, 129, 200} {
		s := filled(make([][]int, size)...)
		for i := range size {
			marked(t, fmt.Sprint(size, " slots"), s, []int{i}, itself, i)
		}
		for _, i := range outside(size) {
			marked(t, fmt.Sprint(size, " slots"), s, []int{i}, itself)
		}
		for i := range size {
			others := slices.Delete(numbersBelow(size), i, i+1)
			swept(t, fmt.Sprint(size, " slots but ", i), s, others, itself, i)
			s.Add(nil)
		}
		swept(t, fmt.Sprint(size, " slots"), s, outside(size), itself, numbersBelow(size)...)
	}
}

func numbersBelow(n int) []int {
	list := make([]int, n)
	for i := range list {
		list[i] = i
	}
	return list
}

// TestP12_1Chain: a chain through all of many slots is gone through to its end, and no deeper in calls at its end than at its beginning.
func TestP12_1Chain(t *testing.T) {
	const n = 400000
	up, down := slots.New[int](), slots.New[int]()
	for i := range n {
		up.Add(i + 1)
		down.Add(i - 1)
	}
	deepest := 0
	frames := make([]uintptr, 1000)
	leads := func(to int) []int {
		deepest = max(deepest, runtime.Callers(0, frames))
		return []int{to}
	}
	for root, s := range map[int]*slots.Slots[int]{0: up, n - 1: down} {
		if got := sweep.Mark(s, []int{root}, leads); !slices.Equal(got, numbersBelow(n)) {
			t.Errorf("P12.1: %d of a chain", len(got))
		}
		if got := sweep.Sweep(s, []int{root}, leads); len(got) != 0 || s.Len() != n {
			t.Errorf("P12.2: %d of a chain freed", len(got))
		}
	}
	if deepest > 100 {
		t.Errorf("%d calls within one another", deepest)
	}
	if got := sweep.Sweep(up, []int{n / 2}, leads); !slices.Equal(got, numbersBelow(n/2)) {
		t.Errorf("P12.2: %d of a chain freed", len(got))
	}
	if got := sweep.Sweep(down, nil, leads); !slices.Equal(got, numbersBelow(n)) || down.Len() != 0 {
		t.Errorf("P12.2: %d of a chain freed", len(got))
	}
}

// TestP12_1Thick: where all lead to all, the way to what can be reached is no longer than it has to be.
func TestP12_1Thick(t *testing.T) {
	const n = 1500
	all := numbersBelow(n)
	s := slots.New[int]()
	for i := range n {
		s.Add(i)
	}
	asked := 0
	leads := func(int) []int { asked++; return all }
	if got := sweep.Mark(s, all[n-1:], leads); !slices.Equal(got, all) {
		t.Errorf("Mark: %d", len(got))
	}
	if asked != n {
		t.Errorf("asked %d times, for %d slots", asked, n)
	}
}

func TestP12_1NilLeads(t *testing.T) {
	s := example()
	marked(t, "a nil leads", s, []int{3, 0, 3, 99, -1}, nil, 0, 3)
	nowhere := func([]int) []int { return nil }
	marked(t, "a leads that answers nil", s, []int{3, 0, 3}, nowhere, 0, 3)
	empty := func([]int) []int { return []int{} }
	marked(t, "a leads that answers none", s, []int{3, 0, 3}, empty, 0, 3)
	swept(t, "a leads that answers nil", example(), []int{0}, nowhere, 1, 2, 3, 4)
	swept(t, "a leads that answers none", example(), []int{0}, empty, 1, 2, 3, 4)
	swept(t, "a nil leads", s, []int{0, 1}, nil, 2, 3, 4)
	swept(t, "a nil leads, no roots", s, nil, nil, 0, 1)
}

// TestP12_1WhoIsAsked: leads is asked of what reached slots have, of nothing else.
func TestP12_1WhoIsAsked(t *testing.T) {
	s := filled("a", "b", "c", "d", "e")
	free(t, s, 2)
	to := map[string][]int{"a": {4, 2}, "b": {3}, "e": {0, 7}}
	var asked []string
	leads := func(v string) []int {
		asked = append(asked, v)
		return to[v]
	}
	if got := sweep.Mark(s, []int{0, 2, -1, 9}, leads); !slices.Equal(got, []int{0, 4}) {
		t.Errorf("Mark: %v", got)
	}
	slices.Sort(asked)
	if !slices.Equal(asked, []string{"a", "e"}) {
		t.Errorf("asked of %q", asked)
	}
}

// TestP12_1GivesUp: no call panics; a leads that gives up at a slot leads nowhere from there.
func TestP12_1GivesUp(t *testing.T) {
	leads := func(list []int) []int { return list[:2] } // gives up at shorter ones
	s := filled([]int{1, 2}, nil, []int{3, 0, 4}, []int{4}, nil)
	marked(t, "gives up", s, []int{0}, leads, 0, 1, 2, 3)
	swept(t, "gives up", s, []int{0}, leads, 4)
	always := func([]int) []int { panic("no") }
	marked(t, "always gives up", s, []int{2, 1}, always, 1, 2)
	swept(t, "always gives up", s, []int{2}, always, 0, 1, 3)
}

// TestP12_1Endless: a leads that makes ever more slots makes no call endless.
func TestP12_1Endless(t *testing.T) {
	s := filled(0)
	calls := 0
	leads := func(i int) []int {
		if calls++; calls > 1000 {
			return nil
		}
		return []int{i, s.Add(i + 1)}
	}
	sweep.Mark(s, []int{0}, leads)
	sweep.Sweep(s, []int{0}, leads)
	if calls > 100 {
		t.Errorf("%d calls", calls)
	}
}

// TestP12_1OneBuffer: what leads answers may be memory that it uses again.
func TestP12_1OneBuffer(t *testing.T) {
	s := filled([]int{1, 2, 3}, []int{4}, []int{5}, []int{6}, nil, []int{4, 6}, nil, nil)
	buffer := make([]int, 0, 3)
	leads := func(list []int) []int {
		buffer = append(buffer[:0], list...)
		return buffer
	}
	marked(t, "one buffer", s, []int{0}, leads, 0, 1, 2, 3, 4, 5, 6)
	swept(t, "one buffer", s, []int{0}, leads, 7)
}

// TestP12_2Cleared: a freed slot holds on to nothing of what it had; the others do.
func TestP12_2Cleared(t *testing.T) {
	s := slots.New[*[]int]()
	var left []weak.Pointer[[]int]
	for i := range 6 {
		p := &[]int{i + 2}
		left = append(left, weak.Make(p))
		s.Add(p)
	}
	freed := sweep.Sweep(s, []int{1}, func(p *[]int) []int { return *p })
	if !slices.Equal(freed, []int{0, 2, 4}) {
		t.Errorf("Sweep: %v", freed)
	}
	runtime.GC()
	for i, w := range left {
		if gone := w.Value() == nil; gone != (i%2 == 0) {
			t.Errorf("what slot %d had: gone %t", i, gone)
		}
	}
	runtime.KeepAlive(s)
}

func TestP12_3Force(t *testing.T) {
	rows := []struct {
		at     []int
		forced []int // of the first 10
	}{
		{nil, nil},
		{[]int{}, nil},
		{[]int{1}, []int{1}},
		{[]int{10, 11}, []int{10}},
		{[]int{2, 2, 0}, []int{2}},
		{[]int{5, 3, 5, 4, 3, 3}, []int{3, 4, 5}},
		{[]int{0, -1, -5, math.MinInt}, nil},
		{[]int{-1, 1, 0, 2, math.MinInt}, []int{1, 2}},
		{[]int{math.MaxInt, 7, 1 << 32}, []int{7}},
		{[]int{10, 9, 8, 7, 6, 5, 4, 3, 2, 1}, []int{1, 2, 3, 4, 5, 6, 7, 8, 9, 10}},
		{[]int{1, 1, 1}, []int{1}},
	}
	for _, r := range rows {
		p := sweep.Force(r.at)
		if p == nil {
			t.Fatalf("Force(%v): nil", r.at)
		}
		ticks(t, fmt.Sprint("Force of ", r.at), p, r.forced...)
	}
}

// ticks fails unless a Plan that has counted nothing forces just these of ten.
func ticks(t *testing.T, what string, p *sweep.Plan, forced ...int) {
	t.Helper()
	for n := 1; n <= 10; n++ {
		if p.Count() != n-1 || p.Count() != n-1 {
			t.Errorf("%s: Count %d ahead of number %d", what, p.Count(), n)
		}
		if got, want := p.Tick(), slices.Contains(forced, n); got != want {
			t.Errorf("%s: Tick number %d: %t", what, n, got)
		}
	}
	if p.Count() != 10 {
		t.Errorf("%s: Count %d", what, p.Count())
	}
}

func TestP12_3NilAndZero(t *testing.T) {
	var none *sweep.Plan
	for range 3 {
		if none.Count() != 0 || none.Tick() || none.Count() != 0 {
			t.Errorf("a nil Plan: Count %d", none.Count())
		}
	}
	var zero sweep.Plan
	ticks(t, "a zero Plan", &zero)
	ticks(t, "another zero Plan", &sweep.Plan{})
}

// TestP12_3Apart: two Plans of one list count each for itself.
func TestP12_3Apart(t *testing.T) {
	at := []int{3, 1}
	p, q := sweep.Force(at), sweep.Force(at)
	if !p.Tick() || p.Tick() || q.Count() != 0 {
		t.Error("the first one")
	}
	ticks(t, "the second one", q, 1, 3)
	if p.Count() != 2 || !p.Tick() || p.Tick() || p.Count() != 4 {
		t.Errorf("the first one, gone on with: Count %d", p.Count())
	}
}

func TestP12_4NilSlots(t *testing.T) {
	nothing(t, itself)
	nothing[int](t, nil)
	nothing(t, func(string) []int { return []int{0, 1} })
	nothing(t, func(any) []int { panic("no") })
}

// nothing fails if something of a nil Slots can be reached or freed.
func nothing[T any](t *testing.T, leads func(T) []int) {
	t.Helper()
	var none *slots.Slots[T]
	for _, roots := range [][]int{nil, {}, {0}, {0, 1, 0}, outside(0)} {
		if got := sweep.Mark(none, roots, leads); len(got) != 0 {
			t.Errorf("Mark of %v: %v", roots, got)
		}
		if got := sweep.Sweep(none, roots, leads); len(got) != 0 {
			t.Errorf("Sweep of %v: %v", roots, got)
		}
		zero := &slots.Slots[T]{}
		if got := sweep.Mark(zero, roots, leads); len(got) != 0 {
			t.Errorf("Mark of a zero Slots, %v: %v", roots, got)
		}
		if got := sweep.Sweep(zero, roots, leads); len(got) != 0 || zero.High() != 0 {
			t.Errorf("Sweep of a zero Slots, %v: %v", roots, got)
		}
	}
}

// TestP12_5SweepAndAdd: what was freed is taken again, the lowest first, and can be swept like any other.
func TestP12_5SweepAndAdd(t *testing.T) {
	s := filled([]int{3}, nil, []int{4}, []int{0}, nil, []int{1})
	swept(t, "first", s, []int{0}, itself, 1, 2, 4, 5)
	for _, want := range []int{1, 2, 4, 5, 6} {
		if got := s.Add([]int{want - 1}); got != want {
			t.Errorf("Add: %d, want %d", got, want)
		}
	}
	marked(t, "taken again", s, []int{2}, itself, 0, 1, 2, 3)
	swept(t, "taken again", s, []int{2}, itself, 4, 5, 6)
	swept(t, "fewer roots", s, []int{3}, itself, 1, 2)
	swept(t, "no roots", s, nil, itself, 0, 3)
	if got := s.Add(nil); got != 0 || s.High() != 7 {
		t.Errorf("Add: %d, High %d", got, s.High())
	}
}

// TestP12_5MoreRoots: each root more frees no slot that was not freed without it.
func TestP12_5MoreRoots(t *testing.T) {
	roots := []int{}
	last := []int{0, 1, 2, 3, 4}
	for _, root := range []int{4, 77, 3, 4, 1, 0} {
		roots = append(roots, root)
		freed := sweep.Sweep(example(), roots, itself)
		for _, i := range freed {
			if !slices.Contains(last, i) {
				t.Errorf("roots %v: slot %d is freed, was not without the last", roots, i)
			}
		}
		last = freed
	}
	if len(last) != 0 {
		t.Errorf("all are roots: freed %v", last)
	}
}

// TestP12_6HandedIn: lists that are handed in, or that leads answers, stay as they are, and so does their spare room.
func TestP12_6HandedIn(t *testing.T) {
	const spare = -7
	roomy := func(list ...int) []int {
		return append(list, spare, spare, spare, spare)[:len(list)]
	}
	lists := [][]int{roomy(5, 4, 4, 9), roomy(0), roomy(), roomy(1), roomy(3, 0), roomy()}
	roots := roomy(4, 2, 4, -1, 99)
	at := roomy(3, 1, 3, 0)
	for range 2 {
		s := filled(lists...)
		sweep.Mark(s, roots, itself)
		sweep.Sweep(s, roots, itself)
	}
	p := sweep.Force(at)
	for range 5 {
		p.Tick()
	}
	want := "[5 4 4 9 -7 -7 -7 -7][0 -7 -7 -7 -7][-7 -7 -7 -7][1 -7 -7 -7 -7][3 0 -7 -7 -7 -7][-7 -7 -7 -7][4 2 4 -1 99 -7 -7 -7 -7][3 1 3 0 -7 -7 -7 -7]"
	got := ""
	for _, list := range append(lists, roots, at) {
		got += fmt.Sprint(list[:len(list)+4])
	}
	if got != want {
		t.Errorf("handed in: %s, want %s", got, want)
	}
}

// TestP12_6NotKept: what was handed in may be changed behind the call.
func TestP12_6NotKept(t *testing.T) {
	at := []int{2, 4}
	p := sweep.Force(at)
	at[0], at[1] = 1, 3
	if p.Tick() || !p.Tick() {
		t.Error("Force keeps its list")
	}
	at[0], at[1] = 3, 3
	if p.Tick() || !p.Tick() {
		t.Error("Force keeps its list, between Ticks")
	}
	s := example()
	roots := []int{0, 1, 2}
	reached := sweep.Mark(s, roots, itself)
	clear(roots)
	if !slices.Equal(reached, []int{0, 1, 2}) {
		t.Errorf("Mark's answer changed with its roots: %v", reached)
	}
	roots = []int{3}
	freed := sweep.Sweep(s, roots, itself)
	roots[0] = 0
	s.Add([]int{1})
	s.Add([]int{2})
	if !slices.Equal(freed, []int{0, 1, 4}) {
		t.Errorf("Sweep's answer changed: %v", freed)
	}
}

// TestP12_6NewMemory: what was answered may be changed, and nobody sees it.
func TestP12_6NewMemory(t *testing.T) {
	lists := [][]int{{0, 1, 2}, {1}, {0}}
	s := filled(lists...)
	roots := []int{0, 1, 2}
	first, second := sweep.Mark(s, roots, itself), sweep.Mark(s, roots, itself)
	first[0], first[1] = 50, 51
	_ = append(first[:1], 52, 53)
	if !slices.Equal(second, []int{0, 1, 2}) || !slices.Equal(roots, []int{0, 1, 2}) || has(s) != "0 [0 1 2], 1 [1], 2 [0]" {
		t.Errorf("changed with an answer: %v, %v, %s", second, roots, has(s))
	}
	marked(t, "behind it", s, roots, itself, 0, 1, 2)
	freed := sweep.Sweep(s, []int{1}, itself)
	if !slices.Equal(freed, []int{0, 2}) {
		t.Errorf("Sweep: %v", freed)
	}
	freed[0], freed[1] = 1, 1
	if a, b := s.Add(nil), s.Add(nil); a != 0 || b != 2 {
		t.Errorf("Add: %d, %d", a, b)
	}
	marked(t, "behind all", s, roots, itself, 0, 1, 2)
}

func TestKindsOfT(t *testing.T) {
	kind(t, 1, 2, 3)
	kind(t, "a", "b", "c")
	kind(t, true, false, true)
	kind(t, struct{}{}, struct{}{}, struct{}{})
	kind(t, [2]int{1, 2}, [2]int{}, [2]int{3})
	kind(t, 1.5, -2, 0)
	kind[any](t, 1, nil, "x")
	kind(t, []int{1}, nil, []int{2, 3})
	kind(t, map[string]int{"a": 1}, nil, map[string]int{})
	kind[error](t, fmt.Errorf("one"), nil, fmt.Errorf("two"))
	kind(t, new(int), nil, new(int))
	kind(t, func() {}, nil, func() {})
}

// kind plays one scene with any type.
func kind[T any](t *testing.T, a, b, c T) {
	t.Helper()
	s := filled(a, b, c, a)
	free(t, s, 1)
	what := fmt.Sprintf("%T", a)
	marked(t, what, s, []int{3, 1}, nil, 3)
	marked(t, what, s, []int{2}, func(T) []int { return []int{0, 1, 2} }, 0, 2)
	swept(t, what, s, []int{2}, func(T) []int { return []int{3, 1} }, 0)
	if got := s.Add(b); got != 0 {
		t.Errorf("%s: Add %d", what, got)
	}
}

func TestExamplesOfChapter12(t *testing.T) {
	s := example()
	marked(t, "first row", s, []int{0}, itself, 0, 1, 2)
	marked(t, "first row", s, []int{3, 3, 77}, itself, 2, 3)
	marked(t, "first row", s, nil, itself)
	if got := sweep.Sweep(s, []int{1}, itself); !slices.Equal(got, []int{3, 4}) {
		t.Errorf("second row: %v", got)
	}
	if got := sweep.Sweep(s, []int{1}, itself); len(got) != 0 {
		t.Errorf("second row, again: %v", got)
	}
	p := sweep.Force([]int{2, 2, 0})
	if a, b, c := p.Tick(), p.Tick(), p.Tick(); a || !b || c || p.Count() != 3 {
		t.Errorf("third row: %t, %t, %t; %d", a, b, c, p.Count())
	}
}

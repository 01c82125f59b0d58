package slots_test

import (
	"fmt"
	"iter"
	"math"
	"runtime"
	"slices"
	"strings"
	"testing"
	"weak"

	"lexicon/slots"
)

// filled is a table whose slots have these, by their numbers.
func filled[T any](t *testing.T, values ...T) *slots.Slots[T] {
	t.Helper()
	s := slots.New[T]()
	for i, v := range values {
		if got := s.Add(v); got != i {
			t.Fatalf("Add number %d: %d", i, got)
		}
	}
	return s
}

// told is what a way through slots comes to, in one text: "0 a, 2 c".
func told[T any](all iter.Seq2[int, T]) string {
	var parts []string
	for i, v := range all {
		parts = append(parts, fmt.Sprint(i, " ", v))
	}
	return strings.Join(parts, ", ")
}

// is fails unless a table has just these slots.
func is[T any](t *testing.T, what string, s *slots.Slots[T], taken, high int, all string) {
	t.Helper()
	if s.Len() != taken || s.High() != high {
		t.Errorf("%s: Len %d, High %d, want %d, %d", what, s.Len(), s.High(), taken, high)
	}
	if got := told(s.All()); got != all {
		t.Errorf("%s: All %q, want %q", what, got, all)
	}
}

// free frees slots that are taken.
func free[T any](t *testing.T, s *slots.Slots[T], numbers ...int) {
	t.Helper()
	for _, i := range numbers {
		if !s.Free(i) {
			t.Fatalf("Free(%d): false", i)
		}
	}
}

// orders is all the orders of the numbers below n.
func orders(n int) [][]int {
	if n == 0 {
		return [][]int{nil}
	}
	var all [][]int
	for _, o := range orders(n - 1) {
		for at := range n {
			all = append(all, slices.Insert(slices.Clone(o), at, n-1))
		}
	}
	return all
}

// outside is numbers of no slot, in a table of so many.
func outside(high int) []int {
	return []int{math.MinInt, math.MinInt + 1, -high - 1, -high, -2, -1, high, high + 1, high + 1000, 1 << 31, 1 << 32, math.MaxInt - 1, math.MaxInt}
}

func TestP11_1NoSlot(t *testing.T) {
	if slots.New[string]() == nil {
		t.Fatal("New: nil")
	}
	rows := []struct {
		name string
		make func() *slots.Slots[string]
	}{
		{"New", slots.New[string]},
		{"a zero one", func() *slots.Slots[string] { return &slots.Slots[string]{} }},
	}
	for _, r := range rows {
		is(t, r.name, r.make(), 0, 0, "")
		s := r.make()
		for _, i := range append(outside(0), 0) {
			if v, ok := s.Get(i); v != "" || ok || s.Set(i, "x") || s.Free(i) {
				t.Errorf("%s: it has a slot %d", r.name, i)
			}
		}
		is(t, r.name+", asked", s, 0, 0, "")
		if a, b := s.Add("a"), s.Add("b"); a != 0 || b != 1 {
			t.Errorf("%s: Add %d, %d", r.name, a, b)
		}
		is(t, r.name+", with two", s, 2, 2, "0 a, 1 b")
	}
}

func TestP11_1NewOnes(t *testing.T) {
	s := slots.New[int]()
	for i := range 3000 {
		if got := s.Add(-i); got != i || s.Len() != i+1 || s.High() != i+1 {
			t.Fatalf("Add number %d: %d, Len %d, High %d", i, got, s.Len(), s.High())
		}
	}
	for i := range 3000 {
		if v, ok := s.Get(i); v != -i || !ok {
			t.Fatalf("Get(%d): %d, %t", i, v, ok)
		}
	}
}

// TestP11_1LowestFirst frees all slots, or some of them, in each order that there is.
func TestP11_1LowestFirst(t *testing.T) {
	const most = 6
	for freed := range most + 1 {
		for _, order := range orders(freed) {
			s := filled(t, 0, 10, 20, 30, 40, 50)
			for k, i := range order {
				free(t, s, i)
				if s.Len() != most-k-1 || s.High() != most {
					t.Fatalf("%v: Len %d, High %d", order, s.Len(), s.High())
				}
			}
			for i := range freed {
				if got := s.Add(100 + i); got != i || s.High() != most {
					t.Fatalf("%v: Add %d, High %d, want %d", order, got, s.High(), i)
				}
			}
			if got := s.Add(200); got != most || s.Len() != most+1 || s.High() != most+1 {
				t.Fatalf("%v: Add %d behind the last free one, Len %d, High %d", order, got, s.Len(), s.High())
			}
			for i := range most {
				want := 10 * i
				if i < freed {
					want = 100 + i
				}
				if v, ok := s.Get(i); v != want || !ok {
					t.Fatalf("%v: Get(%d) %d, %t", order, i, v, ok)
				}
			}
		}
	}
}

// TestP11_1LowestOfSome: what is freed and taken goes to and fro, with gaps.
func TestP11_1LowestOfSome(t *testing.T) {
	s := filled(t, "a", "b", "c", "d", "e", "f", "g", "h")
	free(t, s, 6, 1, 4, 3)
	is(t, "four freed", s, 4, 8, "0 a, 2 c, 5 f, 7 h")
	if i := s.Add("i"); i != 1 {
		t.Errorf("Add: %d, want 1", i)
	}
	free(t, s, 0, 7)
	for k, want := range []int{0, 3, 4, 6, 7, 8} {
		if i := s.Add(fmt.Sprint("n", k)); i != want {
			t.Errorf("Add number %d: %d, want %d", k, i, want)
		}
	}
	is(t, "all taken", s, 9, 9, "0 n0, 1 i, 2 c, 3 n1, 4 n2, 5 f, 6 n3, 7 n4, 8 n5")
}

func TestP11_2GetSet(t *testing.T) {
	s := filled(t, "a", "b", "c")
	for i, want := range []string{"a", "b", "c"} {
		for range 2 { // asking changes nothing
			if v, ok := s.Get(i); v != want || !ok {
				t.Errorf("Get(%d): %q, %t", i, v, ok)
			}
		}
	}
	for _, i := range []int{2, 0, 1, 1} {
		if !s.Set(i, fmt.Sprint("x", i)) {
			t.Errorf("Set(%d): false", i)
		}
	}
	is(t, "all set", s, 3, 3, "0 x0, 1 x1, 2 x2")
	if !s.Set(1, "") {
		t.Error("Set to the zero value: false")
	}
	if v, ok := s.Get(1); v != "" || !ok {
		t.Errorf("Get behind Set to the zero value: %q, %t", v, ok)
	}
	is(t, "one zero", s, 3, 3, "0 x0, 1 , 2 x2")
}

func TestP11_2NumbersOfNone(t *testing.T) {
	for _, n := range []int{0, 1, 2, 3, 8, 9} {
		s := slots.New[string]()
		for range n {
			s.Add("v")
		}
		before := told(s.All())
		for _, i := range outside(n) {
			if v, ok := s.Get(i); v != "" || ok {
				t.Errorf("of %d: Get(%d) %q, %t", n, i, v, ok)
			}
			if s.Set(i, "x") {
				t.Errorf("of %d: Set(%d) true", n, i)
			}
			if s.Free(i) {
				t.Errorf("of %d: Free(%d) true", n, i)
			}
		}
		is(t, "asked for what it has not", s, n, n, before)
		if got := s.Add("last"); got != n {
			t.Errorf("of %d: Add %d", n, got)
		}
	}
}

func TestP11_2Free(t *testing.T) {
	rows := []struct {
		name string
		have int
		free int
		then string
	}{
		{"the first", 4, 0, "1 10, 2 20, 3 30"},
		{"a middle one", 4, 2, "0 0, 1 10, 3 30"},
		{"the last", 4, 3, "0 0, 1 10, 2 20"},
		{"the only one", 1, 0, ""},
	}
	for _, r := range rows {
		s := slots.New[int]()
		for i := range r.have {
			s.Add(10 * i)
		}
		if !s.Free(r.free) {
			t.Errorf("%s: false", r.name)
		}
		is(t, r.name, s, r.have-1, r.have, r.then)
		// A free slot is none that could be told, set or freed again.
		for range 2 {
			if v, ok := s.Get(r.free); v != 0 || ok || s.Set(r.free, 7) || s.Free(r.free) {
				t.Errorf("%s: the free slot still has something", r.name)
			}
		}
		is(t, r.name+", asked for again", s, r.have-1, r.have, r.then)
		if i := s.Add(99); i != r.free {
			t.Errorf("%s: Add %d", r.name, i)
		}
		if v, ok := s.Get(r.free); v != 99 || !ok {
			t.Errorf("%s: taken again: %d, %t", r.name, v, ok)
		}
		if !s.Set(r.free, 98) || !s.Free(r.free) || s.Free(r.free) {
			t.Errorf("%s: taken again, it is no slot like others", r.name)
		}
	}
}

// TestP11_2FreeAgain: a slot that is freed twice is free once.
func TestP11_2FreeAgain(t *testing.T) {
	s := filled(t, "a", "b", "c")
	free(t, s, 1)
	if s.Free(1) || s.Free(1) {
		t.Error("Free of a free slot: true")
	}
	if a, b := s.Add("x"), s.Add("y"); a != 1 || b != 3 {
		t.Errorf("Add: %d, %d, want 1, 3", a, b)
	}
	is(t, "behind it", s, 4, 4, "0 a, 1 x, 2 c, 3 y")
}

// TestP11_2HasNothing: a free slot holds on to nothing of what it had.
func TestP11_2HasNothing(t *testing.T) {
	s := slots.New[*[]int]()
	var left []weak.Pointer[[]int]
	for i := range 5 {
		p := &[]int{i}
		left = append(left, weak.Make(p))
		s.Add(p)
	}
	free(t, s, 0, 3)
	s.Set(4, nil)
	runtime.GC()
	for i, w := range left {
		if gone := w.Value() == nil; gone != (i == 0 || i >= 3) {
			t.Errorf("what slot %d had: gone %t", i, gone)
		}
	}
	runtime.KeepAlive(s)
}

func TestP11_3AsAsked(t *testing.T) {
	s := filled(t, "a", "b", "c", "d")
	free(t, s, 1)
	all := s.All()
	s.Set(0, "x")
	free(t, s, 2)
	s.Add("new") // into slot 1
	s.Add("new")
	s.Add("new")
	for range 2 {
		if got := told(all); got != "0 a, 2 c, 3 d" {
			t.Errorf("those that there were: %q", got)
		}
	}
	if got := told(s.All()); got != "0 x, 1 new, 2 new, 3 d, 4 new" {
		t.Errorf("those that there are: %q", got)
	}
	free(t, s, 0, 1, 2, 3, 4)
	if got := told(all); got != "0 a, 2 c, 3 d" {
		t.Errorf("those that there were, behind the last one's end: %q", got)
	}
	none := s.All()
	s.Add("late")
	if got := told(none); got != "" {
		t.Errorf("asked for when there was none: %q", got)
	}
}

func TestP11_3ChangedMeanwhile(t *testing.T) {
	s := filled(t, "a", "b", "c", "d")
	var got []string
	for i, v := range s.All() {
		got = append(got, v)
		switch i {
		case 0:
			free(t, s, 0, 2)
			s.Set(1, "x")
			s.Set(3, "y")
		case 1:
			s.Add("new")
			s.Add("new")
			s.Add("new")
		case 3:
			free(t, s, 3)
		}
	}
	if !slices.Equal(got, []string{"a", "b", "c", "d"}) {
		t.Errorf("All: %q", got)
	}
	is(t, "behind it", s, 4, 5, "0 new, 1 x, 2 new, 4 new")
}

func TestP11_3LeftAndTwice(t *testing.T) {
	s := filled(t, "a", "b", "c", "d", "e")
	free(t, s, 0, 3)
	all := s.All()
	for leave := range 4 {
		var numbers []int
		for i := range all {
			if len(numbers) == leave {
				break
			}
			numbers = append(numbers, i)
		}
		if want := []int{1, 2, 4}[:min(leave, 3)]; !slices.Equal(numbers, want) {
			t.Errorf("left behind %d: %v", leave, numbers)
		}
	}
	pairs := 0
	for i, v := range all { // within itself
		if got := told(all); got != "1 b, 2 c, 4 e" {
			t.Errorf("within, at %d %s: %q", i, v, got)
		}
		pairs++
	}
	if pairs != 3 {
		t.Errorf("around: %d", pairs)
	}
	calls := 0
	all(func(int, string) bool { calls++; return false })
	if calls != 1 {
		t.Errorf("told to stop, it went on: %d calls", calls)
	}
}

func TestP11_4Nil(t *testing.T) {
	nothing[int](t, 7)
	nothing(t, "x")
	nothing(t, []int{1})
	nothing[any](t, nil)
	nothing(t, struct{}{})
}

// nothing fails if a nil Slots has something.
func nothing[T any](t *testing.T, v T) {
	t.Helper()
	var none *slots.Slots[T]
	var zero T
	for range 2 {
		if got := none.Add(v); got != -1 {
			t.Errorf("Add: %d", got)
		}
		if none.Len() != 0 || none.High() != 0 {
			t.Errorf("Len %d, High %d", none.Len(), none.High())
		}
		for _, i := range append(outside(0), 0) {
			if got, ok := none.Get(i); fmt.Sprint(got) != fmt.Sprint(zero) || ok {
				t.Errorf("Get(%d): %v, %t", i, got, ok)
			}
			if none.Set(i, v) || none.Free(i) {
				t.Errorf("Set or Free of %d: true", i)
			}
		}
		if got := told(none.All()); got != "" {
			t.Errorf("All: %q", got)
		}
	}
}

func TestP11_5NumbersStay(t *testing.T) {
	s := filled(t, "stays", "goes", "stays too", "goes")
	for round := range 50 {
		free(t, s, 1, 3)
		a, b := s.Add("goes"), s.Add("goes")
		if a != 1 || b != 3 || s.High() != 4 {
			t.Fatalf("round %d: Add %d, %d, High %d", round, a, b, s.High())
		}
		one, _ := s.Get(0)
		two, _ := s.Get(2)
		if one != "stays" || two != "stays too" {
			t.Fatalf("round %d: %q, %q", round, one, two)
		}
	}
}

// TestP11_5High: it is the most that ever were taken at one time, not how many came, nor how many are there.
func TestP11_5High(t *testing.T) {
	s := slots.New[int]()
	rows := []struct{ taken, high int }{{3, 3}, {0, 3}, {2, 3}, {3, 3}, {4, 4}, {1, 4}, {4, 4}, {0, 4}, {9, 9}, {8, 9}}
	for _, r := range rows {
		for range s.Len() - r.taken {
			numbers := slices.Collect(keys(s.All()))
			free(t, s, numbers[len(numbers)/2])
		}
		for range r.taken - s.Len() {
			s.Add(1)
		}
		if s.High() != r.high {
			t.Errorf("with %d taken: High %d, want %d", r.taken, s.High(), r.high)
		}
	}
}

func keys[T any](all iter.Seq2[int, T]) iter.Seq[int] {
	return func(yield func(int) bool) {
		for i := range all {
			if !yield(i) {
				return
			}
		}
	}
}

func TestP11_6NothingInCommon(t *testing.T) {
	makers := map[string]func() *slots.Slots[string]{
		"New":      slots.New[string],
		"zero one": func() *slots.Slots[string] { return &slots.Slots[string]{} },
	}
	for name, make := range makers {
		a, b := make(), make()
		a.Add("a0")
		is(t, name, b, 0, 0, "")
		b.Add("b0")
		a.Add("a1")
		b.Add("b1")
		free(t, a, 0)
		is(t, name, b, 2, 2, "0 b0, 1 b1")
		if i := b.Add("b2"); i != 2 {
			t.Errorf("%s: Add %d, as if the other's free slot were its own", name, i)
		}
		if !b.Set(0, "x") || !b.Free(1) {
			t.Errorf("%s: Set and Free", name)
		}
		is(t, name, a, 1, 2, "1 a1")
		if i := a.Add("a2"); i != 0 {
			t.Errorf("%s: Add %d", name, i)
		}
		is(t, name, a, 2, 2, "0 a2, 1 a1")
		is(t, name, b, 2, 3, "0 x, 2 b2")
	}
	// Of a type without a byte too.
	a, b := slots.New[struct{}](), slots.New[struct{}]()
	a.Add(struct{}{})
	is(t, "struct{}", a, 1, 1, "0 {}")
	is(t, "struct{}", b, 0, 0, "")
}

func TestKindsOfT(t *testing.T) {
	kind(t, 1, 2, 3)
	kind(t, "a", "b", "c")
	kind(t, true, false, true)
	kind(t, struct{}{}, struct{}{}, struct{}{})
	kind(t, [2]int{1, 2}, [2]int{}, [2]int{3})
	kind(t, 1.5, -2, 0)
	kind[any](t, 1, nil, "x")
	kind(t, []int{1}, nil, []int{2, 3})
	kind(t, map[string]int{"a": 1}, nil, map[string]int{})
	kind[error](t, fmt.Errorf("one"), nil, fmt.Errorf("two"))
	kind(t, new(int), nil, new(int))
	kind(t, slots.New[int](), nil, slots.New[int]())
	kind(t, func() {}, nil, func() {})
}

// kind plays one scene with any type.
func kind[T any](t *testing.T, a, b, c T) {
	t.Helper()
	text := func(v any) string { return fmt.Sprintf("%T %v", v, v) }
	var zero T
	s := filled(t, a, b, c)
	for i, want := range []T{a, b, c} {
		if got, ok := s.Get(i); text(got) != text(want) || !ok {
			t.Errorf("Get(%d): %s, %t, want %s", i, text(got), ok, text(want))
		}
	}
	free(t, s, 0)
	if got, ok := s.Get(0); text(got) != text(zero) || ok {
		t.Errorf("Get of a free one: %s, %t", text(got), ok)
	}
	if s.Set(0, a) || !s.Set(1, c) || s.Add(b) != 0 || s.Len() != 3 || s.High() != 3 {
		t.Errorf("%T: it goes another way", zero)
	}
	want := []T{b, c, c}
	for i, v := range s.All() {
		if text(v) != text(want[i]) {
			t.Errorf("All at %d: %s, want %s", i, text(v), text(want[i]))
		}
	}
}

func TestExamplesOfChapter11(t *testing.T) {
	s := slots.New[string]()
	answers := []any{s.Add("a"), s.Add("b"), s.Add("c"), s.Free(1), s.Free(0), s.Free(0), s.Add("d"), s.Add("e"), s.Add("f")}
	if got := fmt.Sprint(answers); got != "[0 1 2 true true false 0 1 3]" {
		t.Errorf("first row: %s", got)
	}
	if v, ok := s.Get(0); v != "d" || !ok {
		t.Errorf("Get(0): %q, %t", v, ok)
	}
	if v, ok := s.Get(9); v != "" || ok {
		t.Errorf("Get(9): %q, %t", v, ok)
	}
	if !s.Set(1, "x") {
		t.Error("Set(1, x): false")
	}
	is(t, "second row", s, 4, 4, "0 d, 1 x, 2 c, 3 f")
}

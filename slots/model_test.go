package slots_test

import (
	"fmt"
	"iter"
	"maps"
	"math/rand"
	"slices"
	"strings"
	"testing"

	"lexicon/slots"
)

// model is a table of slots, word by word as the chapter says it.
type model struct {
	has  map[int]string // the taken ones
	high int
	most int // that were taken at one time
}

func (m *model) add(v string) int {
	i := 0
	for m.taken(i) {
		i++
	}
	m.has[i] = v
	m.high = max(m.high, i+1)
	m.most = max(m.most, len(m.has))
	return i
}

func (m *model) taken(i int) bool {
	_, ok := m.has[i]
	return ok
}

func (m *model) set(i int, v string) bool {
	if !m.taken(i) {
		return false
	}
	m.has[i] = v
	return true
}

func (m *model) free(i int) bool {
	ok := m.taken(i)
	delete(m.has, i)
	return ok
}

func (m *model) all() string {
	var parts []string
	for _, i := range slices.Sorted(maps.Keys(m.has)) {
		parts = append(parts, fmt.Sprint(i, " ", m.has[i]))
	}
	return strings.Join(parts, ", ")
}

// asked is a way through slots that is gone through later.
type asked struct {
	all  iter.Seq2[int, string]
	want string
}

// TestGames plays two tables in turns, each against its model; the odds turn now and then, so that tables fill and empty.
func TestGames(t *testing.T) {
	for seed := range 200 {
		r := rand.New(rand.NewSource(int64(seed)))
		real := [2]*slots.Slots[string]{slots.New[string](), {}}
		models := [2]*model{{has: map[int]string{}}, {has: map[int]string{}}}
		var later []asked
		odds := 50
		for step := range 600 {
			k := r.Intn(2)
			s, m := real[k], models[k]
			if step%60 == 0 {
				odds = 10 + r.Intn(60)
			}
			i := r.Intn(m.high+4) - 2
			v := fmt.Sprint("v", step)
			var got, want string
			switch n := r.Intn(100); {
			case n < odds:
				got, want = fmt.Sprint(s.Add(v)), fmt.Sprint(m.add(v))
			case n < odds+10:
				got, want = fmt.Sprint(s.Set(i, v)), fmt.Sprint(m.set(i, v))
			case n < 98:
				got, want = fmt.Sprint(s.Free(i)), fmt.Sprint(m.free(i))
			default:
				later = append(later, asked{s.All(), m.all()})
			}
			if got != want {
				t.Fatalf("seed %d, step %d: %s, want %s", seed, step, got, want)
			}
			if s.Len() != len(m.has) || s.High() != m.high || m.high != m.most {
				t.Fatalf("seed %d, step %d: Len %d, High %d, want %d, %d", seed, step, s.Len(), s.High(), len(m.has), m.most)
			}
			for j := -1; j <= m.high; j++ {
				if v, ok := s.Get(j); v != m.has[j] || ok != m.taken(j) {
					t.Fatalf("seed %d, step %d: Get(%d) %q, %t", seed, step, j, v, ok)
				}
			}
			if all := told(s.All()); step%10 == 0 && all != m.all() {
				t.Fatalf("seed %d, step %d: All %q, want %q", seed, step, all, m.all())
			}
		}
		for n, a := range later {
			if all := told(a.all); all != a.want {
				t.Fatalf("seed %d: All number %d was %q, is %q", seed, n, a.want, all)
			}
		}
	}
}

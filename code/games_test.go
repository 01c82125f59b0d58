package code_test

import (
	"fmt"
	"math"
	"math/rand"
	"slices"
	"testing"

	"lexicon/api"
	"lexicon/code"
)

// open is a try that was opened: where it leads to, and how deep the stack was.
type open struct{ to, depth int }

// runner does instructions on a stack that has values, whichever way.
type runner struct {
	*rand.Rand
	t     testing.TB
	p     api.Program
	f     api.Func
	at    int
	stack []int
	tries []open
}

// runs goes some ways through each function of a right program: P17.4.
func runs(t testing.TB, p api.Program, by *rand.Rand) {
	t.Helper()
	for _, f := range p.Funcs {
		if len(f.Code) > 5000 {
			continue
		}
		for range 6 {
			r := runner{Rand: by, t: t, p: p, f: f}
			for steps := 0; steps < len(f.Code)*2+20 && r.step(); steps++ {
			}
		}
	}
}

func (r *runner) take(n int) {
	if n > len(r.stack) {
		r.t.Fatalf("P17.4: instruction %d takes %d of %d values: %v", r.at, n, len(r.stack), r.f.Code)
	}
	r.stack = r.stack[:len(r.stack)-n]
}

func (r *runner) give(n int) {
	for range n {
		r.stack = append(r.stack, r.at)
	}
	if len(r.stack) > api.MaxStack {
		r.t.Fatalf("P17.4: behind instruction %d there are %d values: %v", r.at, len(r.stack), r.f.Code)
	}
}

// raise goes where the last open try leads to.
func (r *runner) raise() {
	last := r.tries[len(r.tries)-1]
	r.tries = r.tries[:len(r.tries)-1]
	r.stack = r.stack[:last.depth]
	r.give(1)
	r.at = last.to
}

// step tells whether there is another one.
func (r *runner) step() bool {
	if r.at < 0 || r.at >= len(r.f.Code) {
		r.t.Fatalf("P17.4: there is no instruction %d: %v", r.at, r.f.Code)
	}
	if n := len(r.tries); n > 0 && r.Intn(8) == 0 && len(r.stack) >= r.tries[n-1].depth {
		r.raise()
		return true
	}
	i := r.f.Code[r.at]
	e := entries[i.Op]
	takes, gives, ok := modelEffect(i)
	if !ok {
		r.t.Fatalf("P17.4: instruction %d is none: %v", r.at, i)
	}
	if e.name == "func" {
		takes += r.p.Funcs[i.A].Frees
	}
	r.take(takes)
	if e.works && len(r.stack) < i.A {
		r.t.Fatalf("P17.4: instruction %d works on nothing: %v", r.at, r.f.Code)
	}
	switch {
	case e.name == "return" || e.name == "raise":
		return false
	case e.name == "jump" || e.leads && e.name != "try" && r.Intn(2) == 0:
		if e.atA != "" {
			gives = reckon(e.atA, i)
		}
		r.give(gives)
		r.at = i.A
		return true
	case e.name == "try":
		r.tries = append(r.tries, open{i.A, len(r.stack)})
	case e.name == "endtry":
		if len(r.tries) == 0 {
			r.t.Fatalf("P17.4: no try is open at %d: %v", r.at, r.f.Code)
		}
		r.tries = r.tries[:len(r.tries)-1]
	}
	r.give(gives)
	r.at++
	return true
}

// TestP17_4AllShort: all functions of few instructions; those that are right
// run well.
func TestP17_4AllShort(t *testing.T) {
	letters := read("const 0, pop, dup, return, raise, jump 0, jump 2, if 0, if 3, or 2, or 3, next 1, next 3, try 2, try 3, endtry, append 1, tuple 2")
	right := 0
	var grow func(list []api.Instr, more int)
	grow = func(list []api.Instr, more int) {
		if len(list) > 0 {
			p := program(list)
			n, e := code.Verify(p)
			if m, f := modelVerify(p); n != m || e != f {
				t.Fatalf("P17.2: %v: got %d, %d, want %d, %d", list, n, e, m, f)
			}
			if e == api.OK {
				right++
				runs(t, p, rand.New(rand.NewSource(int64(right))))
			}
		}
		if more > 0 {
			for _, i := range letters {
				grow(append(slices.Clone(list), i), more-1)
			}
		}
	}
	grow(nil, 4)
	if right < 500 {
		t.Errorf("there are %d right ones", right)
	}
}

// layer lays functions by chance that are right.
type layer struct {
	*rand.Rand
	p    *api.Program
	f    *api.Func
	deep int // of the stack, where it lays
	open int // tries
}

func (l *layer) put(name string, ab ...int) int {
	i := in(name, ab...)
	l.f.Code = append(l.f.Code, i)
	takes, gives, _ := modelEffect(i)
	if name == "func" {
		takes += l.p.Funcs[i.A].Frees
	}
	l.deep += gives - takes
	return len(l.f.Code) - 1
}

// here leads an instruction to what is laid next.
func (l *layer) here(from ...int) {
	for _, at := range from {
		l.f.Code[at].A = len(l.f.Code)
	}
}

func (l *layer) index(count int) int { return l.Intn(count) }

// value lays what comes to one value more.
func (l *layer) value(size int) {
	if size <= 0 {
		l.plain()
		return
	}
	switch l.Intn(12) {
	case 0:
		l.value(size / 2)
		l.value(size / 2)
		l.put([]string{"binary", "compare"}[l.Intn(2)], 1+l.Intn(8))
	case 1:
		n := l.Intn(4)
		for range n {
			l.value(size / 4)
		}
		l.put([]string{"tuple", "list"}[l.Intn(2)], n)
	case 2:
		l.collect(size)
	case 3:
		l.value(size / 2)
		at := l.put([]string{"or", "and"}[l.Intn(2)])
		l.value(size / 2)
		l.here(at)
	case 4:
		l.value(size / 2)
		at := l.put("ifnot")
		l.value(size / 2)
		end := l.put("jump")
		l.here(at)
		l.deep--
		l.value(size / 2)
		l.here(end)
	case 5:
		n, b := l.Intn(3), l.Intn(2)
		for range n + 1 {
			l.value(size / 4)
		}
		if b == 1 {
			l.put("dict")
		}
		l.put("call", n, b)
	case 6:
		l.function(size)
	case 7:
		l.value(size / 2)
		l.put([]string{"negative", "not", "iter"}[l.Intn(3)])
	case 8:
		l.value(size / 2)
		l.put("loadattr", l.index(len(l.p.Names)))
	case 9:
		l.value(size / 2)
		l.value(size / 2)
		l.put([]string{"loadindex", "match"}[l.Intn(2)])
	case 10:
		l.value(size / 3)
		l.value(size / 3)
		l.put("swap")
		l.value(size / 3)
		l.put("turn")
		l.put("pop")
		l.put("pop")
	case 11:
		l.value(size / 2)
		l.put("dup")
		l.put("dup2")
		for range 3 {
			l.put("pop")
		}
	}
}

func (l *layer) plain() {
	switch l.Intn(5) {
	case 0:
		if len(l.f.Names) > 0 {
			l.put("loadlocal", l.index(len(l.f.Names)))
			return
		}
	case 1:
		if n := l.f.Cells + l.f.Frees; n > 0 {
			l.put([]string{"loadcell", "pushcell"}[l.Intn(2)], l.index(n))
			return
		}
	case 2:
		l.put("loadglobal", l.index(len(l.p.Names)))
		return
	case 3:
		if l.f.Kind == api.KindClass {
			l.put("loadname", l.index(len(l.p.Names)))
			return
		}
	}
	l.put("const", l.index(len(l.p.Consts)))
}

// collect lays a dict, a set, a list, and what comes into it.
func (l *layer) collect(size int) {
	kind := l.Intn(3)
	l.put([]string{"dict", "set", "list"}[kind])
	far := l.Intn(3)
	for range far {
		l.plain()
	}
	for range l.Intn(3) {
		l.value(size / 3)
		switch kind {
		case 0:
			if l.Intn(2) == 0 {
				l.put([]string{"merge", "keyword"}[l.Intn(2)], far+1)
				continue
			}
			l.value(size / 3)
			l.put("addpair", far+1)
		case 1:
			l.put("additem", far+1)
		case 2:
			l.put("append", far+1)
		}
	}
	for range far {
		l.put("pop")
	}
}

// function lays another function's defaults and frees, and it.
func (l *layer) function(size int) {
	if len(l.p.Funcs) == 1 {
		l.plain()
		return
	}
	to := 1 + l.Intn(len(l.p.Funcs)-1)
	f := l.p.Funcs[to]
	b := 0
	if f.Kind == api.KindClass {
		b = l.Intn(2)
	}
	for range b + f.Defaults + f.Frees {
		l.plain()
	}
	l.put("func", to, f.Defaults)
	if f.Kind == api.KindClass {
		l.put("class", l.index(len(l.p.Names)), b)
	}
}

// statement lays what comes to as many values as there were.
func (l *layer) statement(size int) {
	switch l.Intn(8) {
	case 0:
		l.value(size)
		at := l.put("if")
		l.block(size / 2)
		l.here(at)
	case 1:
		from := len(l.f.Code)
		l.value(size / 3)
		at := l.put("ifnot")
		l.block(size / 2)
		l.put("jump", from)
		l.here(at)
	case 2:
		l.value(size / 3)
		l.put("iter")
		at := l.put("next")
		l.store()
		l.block(size / 2)
		l.put("jump", at)
		l.here(at)
		l.deep--
	case 3:
		at := l.put("try")
		l.open++
		l.block(size / 2)
		l.put("endtry")
		l.open--
		end := l.put("jump")
		l.here(at)
		l.deep++
		l.store()
		l.block(size / 3)
		l.here(end)
	case 4:
		l.value(size)
		n := 1 + l.Intn(3)
		l.put("unpack", n)
		for range n {
			l.store()
		}
	case 5:
		l.value(size)
		l.put("pop")
	case 6:
		l.value(size / 3)
		l.value(size / 3)
		l.value(size / 3)
		l.put("setindex")
		l.put("delglobal", l.index(len(l.p.Names)))
	case 7:
		l.value(size)
		l.store()
	}
}

func (l *layer) store() {
	switch l.Intn(4) {
	case 0:
		if len(l.f.Names) > 0 {
			l.put("storelocal", l.index(len(l.f.Names)))
			return
		}
	case 1:
		if n := l.f.Cells + l.f.Frees; n > 0 {
			l.put("storecell", l.index(n))
			return
		}
	case 2:
		l.plain()
		l.put("setattr", l.index(len(l.p.Names)))
		return
	}
	l.put("setglobal", l.index(len(l.p.Names)))
}

func (l *layer) block(size int) {
	for range 1 + l.Intn(2) {
		l.statement(size)
	}
}

func (l *layer) lay(number int) {
	l.f, l.deep, l.open = &l.p.Funcs[number], 0, 0
	l.f.Code = nil
	for range l.Intn(4) {
		l.statement(6)
	}
	l.value(4)
	l.put([]string{"return", "raise"}[l.Intn(2)])
	if l.Intn(4) == 0 { // what no way comes to
		l.put("pop")
		l.put("endtry")
	}
}

// grown is a right program by chance.
func grown(by *rand.Rand) api.Program {
	p := program(nil)
	for range by.Intn(4) {
		f := api.Func{Kind: 2 + by.Intn(3), Cells: by.Intn(3), Frees: by.Intn(3)}
		switch f.Kind {
		case api.KindDef:
			f.Params, f.Rest = by.Intn(3), by.Intn(2) == 0
			f.Defaults = by.Intn(f.Params + 1)
		case api.KindComp:
			f.Params = 1
		}
		f.Names = make([]string, f.Params+1+by.Intn(2))
		p.Funcs = append(p.Funcs, f)
	}
	l := &layer{Rand: by, p: &p}
	for number := range p.Funcs {
		l.lay(number)
	}
	return p
}

// turn turns something of a program.
func turn(by *rand.Rand, p *api.Program) {
	few := []int{-1, 0, 0, 1, 1, 2, 3, 5, 999, 1000, 1001, 65536, math.MinInt, math.MaxInt}
	number := func(n int) int {
		if by.Intn(2) == 0 {
			return n + by.Intn(3) - 1
		}
		return few[by.Intn(len(few))]
	}
	f := &p.Funcs[by.Intn(len(p.Funcs))]
	at := by.Intn(len(f.Code))
	switch by.Intn(12) {
	case 0:
		f.Params = number(f.Params)
	case 1:
		f.Defaults = number(f.Defaults)
	case 2:
		f.Frees = number(f.Frees)
	case 3:
		f.Cells = number(f.Cells)
	case 4:
		f.Names = f.Names[:len(f.Names)/2]
	case 5:
		f.Kind = by.Intn(6)
	case 6:
		f.Code[at].Op = by.Intn(len(entries) + 1)
	case 7:
		f.Code[at].B = number(f.Code[at].B)
	case 8:
		f.Code = slices.Delete(f.Code, at, at+1)
		if len(f.Code) == 0 {
			f.Code = leave()
		}
	case 9:
		f.Code = slices.Insert(f.Code, at, api.Instr{Op: by.Intn(len(entries))})
	case 10:
		f.Code[at].A = by.Intn(len(f.Code) + 1)
	case 11:
		f.Code[at].A = number(f.Code[at].A)
	}
}

// TestP17_4Games: programs by chance are right; turned here and there, they are
// what the model says; those that are right run well.
func TestP17_4Games(t *testing.T) {
	const groups = 8
	var seen [groups]map[string]int
	t.Run("all", func(t *testing.T) {
		for group := range groups {
			seen[group] = map[string]int{}
			t.Run(fmt.Sprint(group), func(t *testing.T) {
				t.Parallel()
				for seed := group; seed < 1200; seed += groups {
					game(t, rand.New(rand.NewSource(int64(seed))), seen[group])
				}
			})
		}
	})
	for _, what := range []string{"right", "wrong 0", "wrong 1", "wrong 2", "wrong 3"} {
		count := 0
		for _, s := range seen {
			count += s[what]
		}
		if count < 100 {
			t.Errorf("the games have %d of %s", count, what)
		}
	}
	for _, e := range entries[1:] {
		count := 0
		for _, s := range seen {
			count += s[e.name]
		}
		if count < 20 && !slices.Contains([]string{"setname", "delname", "delattr", "delindex", "dellocal", "delcell"}, e.name) {
			t.Errorf("the games have %d of %s", count, e.name)
		}
	}
}

func game(t *testing.T, by *rand.Rand, seen map[string]int) {
	p := grown(by)
	offends(t, "grown", p, none)
	runs(t, p, by)
	for _, f := range p.Funcs {
		for _, i := range f.Code {
			seen[entries[i.Op].name]++
		}
	}
	for range 12 {
		q := copied(p)
		for range 1 + by.Intn(2) {
			turn(by, &q)
		}
		n, e := verify(t, q)
		if e == api.OK {
			seen["right"]++
			runs(t, q, by)
		} else {
			seen[fmt.Sprint("wrong ", n)]++
		}
	}
}

// TestSame: what is answered hangs on nothing but the program.
func TestSame(t *testing.T) {
	by := rand.New(rand.NewSource(5))
	p := program(leave())
	for range 300 {
		f := ofKind(api.KindDef)
		f.Code = join(consts(by.Intn(50)), leave())
		p.Funcs = append(p.Funcs, f)
	}
	p.Funcs[200].Code = read("pop")
	p.Funcs[100].Code = join(slices.Repeat(read("dict, pop"), 3000), read("pop, jump 0"))
	for range 200 {
		if n, e := code.Verify(p); n != 100 || e != api.ErrShape {
			t.Fatalf("P17.2: got %d, %d", n, e)
		}
	}
}

// TestAtOneTime: one program may be asked for by several goroutines.
func TestAtOneTime(t *testing.T) {
	p := everything()
	want := code.Print(p)
	told := make(chan string)
	for range 20 {
		go func() { told <- code.Print(p) }()
	}
	for range 20 {
		if got := <-told; got != want {
			t.Errorf("P17.3: got %q, want %q", got, want)
		}
	}
}

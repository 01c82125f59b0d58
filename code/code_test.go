package code_test

import (
	"fmt"
	"math"
	"math/rand"
	"slices"
	"strconv"
	"strings"
	"testing"

	"lexicon/api"
	"lexicon/code"
)

// in is an instruction.
func in(name string, ab ...int) api.Instr {
	i := api.Instr{Op: opOf(name)}
	if len(ab) > 0 {
		i.A = ab[0]
	}
	if len(ab) > 1 {
		i.B = ab[1]
	}
	return i
}

// read is instructions as texts, with a comma between.
func read(text string) (list []api.Instr) {
	for _, one := range strings.Split(text, ",") {
		words := strings.Fields(one)
		var ab []int
		for _, word := range words[1:] {
			n, err := strconv.Atoi(word)
			if err != nil {
				panic(one)
			}
			ab = append(ab, n)
		}
		list = append(list, in(words[0], ab...))
	}
	return list
}

func join(lists ...[]api.Instr) []api.Instr { return slices.Concat(lists...) }

// leave is what may stand at any depth below MaxStack.
func leave() []api.Instr { return read("const 0, return") }

func consts(n int) []api.Instr { return slices.Repeat(read("const 0"), n) }

// program has a module function with a local and a cell, and others.
func program(list []api.Instr, others ...api.Func) api.Program {
	module := api.Func{Kind: api.KindModule, Names: []string{"x"}, Cells: 1, Code: list}
	return api.Program{
		Funcs: append([]api.Func{module}, others...),
		Consts: []api.Const{
			{Kind: api.ValNone}, {Kind: api.ValBool, Bool: true}, {Kind: api.ValBool},
			{Kind: api.ValInt, Num: api.Int{Neg: true, Mag: []uint32{7}}}, {Kind: api.ValStr, Text: "it's"},
		},
		Names: []string{"n", "_m1"},
	}
}

// ofKind is a right function.
func ofKind(kind int) api.Func {
	f := api.Func{Kind: kind, Names: []string{"a", "b"}, Code: leave()}
	if kind == api.KindComp {
		f.Params = 1
	}
	return f
}

// verify is Verify, held against the model; Print too.
func verify(t testing.TB, p api.Program) (int, api.Errno) {
	t.Helper()
	n, e := code.Verify(p)
	if m, f := modelVerify(p); n != m || e != f {
		t.Fatalf("P17.2: got %d, %d, want %d, %d\n%.2000v", n, e, m, f, p)
	}
	want := ""
	if e == api.OK {
		want = modelPrint(p)
	}
	if got := code.Print(p); got != want {
		t.Fatalf("P17.3: got %.2000q\nwant %.2000q", got, want)
	}
	return n, e
}

// offends tells the first function that is to be wrong; none: none is.
const none = -2

func offends(t testing.TB, what string, p api.Program, want int) {
	t.Helper()
	n, e := verify(t, p)
	if want == none && (n != 0 || e != api.OK) || want != none && (n != want || e != api.ErrShape) {
		t.Errorf("P17.2: %s: got %d, %d, want %d", what, n, e, want)
	}
}

// goes tells whether a module's instructions are to be right.
func goes(t testing.TB, what string, list []api.Instr, right bool, others ...api.Func) {
	t.Helper()
	p := program(list, others...)
	if !right {
		offends(t, what, p, 0)
		return
	}
	offends(t, what, p, none)
	runs(t, p, rand.New(rand.NewSource(int64(len(list)))))
}

// texts is goes, of texts.
func texts(t *testing.T, right bool, list ...string) {
	t.Helper()
	for _, text := range list {
		goes(t, text, read(text), right)
	}
}

func TestExamplesOfChapter17(t *testing.T) {
	texts(t, true, "const 0, return")
	texts(t, false, "return", "const 0", "pop, return", "const 9, return", "const 0, if 3, const 0, return")
	one := program(read("const 1, return"))
	one.Consts = one.Consts[:1]
	offends(t, "const 1, return", one, 0)
}

// edges are numbers at which a bound may stand.
func edges() (list []int) {
	for _, n := range []int{0, api.BinXor, api.CompIsNot, api.MaxNames, api.MaxItems, api.MaxInstrs, api.MaxNumber} {
		list = append(list, n-1, n, n+1, n+2)
	}
	return append(list, -7, math.MinInt, math.MinInt+1, math.MaxInt-1, math.MaxInt)
}

func TestP17_1Rows(t *testing.T) {
	for op, e := range entries {
		if (op == 0) != (e.name == "") || op != e.op {
			t.Fatalf("the table has no row of %d", op)
		}
		if got := code.Name(op); got != e.name {
			t.Errorf("P17.1: Name(%d) is %q, not %q", op, got, e.name)
		}
		for _, a := range edges() {
			for _, b := range edges() {
				i := api.Instr{Op: op, A: a, B: b}
				takes, gives, ok := code.Effect(i)
				if w, x, right := modelEffect(i); takes != w || gives != x || ok != right {
					t.Errorf("P17.1: Effect(%s %d %d): got %d %d %v, want %d %d %v", e.name, a, b, takes, gives, ok, w, x, right)
				}
			}
		}
	}
}

func TestP17_1Bounds(t *testing.T) {
	for _, row := range []struct {
		name        string
		least, most int
		b           bool
	}{
		{"const", 0, math.MaxInt, false}, {"pop", 0, 0, false}, {"loadlocal", 0, math.MaxInt, false}, {"pushcell", 0, math.MaxInt, false},
		{"delname", 0, math.MaxInt, false}, {"binary", 1, 8, false}, {"compare", 1, 10, false}, {"tuple", 0, 65536, false},
		{"list", 0, 65536, false}, {"addpair", 1, 1000, false}, {"keyword", 1, 1000, false}, {"unpack", 1, 1000, false},
		{"try", 0, math.MaxInt, false}, {"call", 0, 1000, false}, {"call", 0, 1, true}, {"func", 1, math.MaxInt, false},
		{"func", 0, 1000, true}, {"class", 0, math.MaxInt, false}, {"class", 0, 1, true}, {"jump", 0, 0, true}, {"raise", 0, 0, true},
	} {
		for _, n := range []int{math.MinInt, row.least - 1, row.least, row.most, row.most + 1, math.MaxInt} {
			i := in(row.name, n)
			if row.b {
				i = in(row.name, 1, n)
			}
			if i.Op == api.OpRaise {
				i.A = 0
			}
			takes, gives, ok := code.Effect(i)
			if ok != (n >= row.least && n <= row.most) || !ok && (takes != 0 || gives != 0) {
				t.Errorf("P17.1: Effect(%v): %d %d %v", i, takes, gives, ok)
			}
		}
	}
}

func TestP17_1NoRow(t *testing.T) {
	list := []int{math.MinInt, math.MinInt + 1, 1 << 32, 1<<32 + 1, 1<<8 + 1, 1<<16 + 1, math.MaxInt}
	for n := range 400 {
		list = append(list, -n, len(entries)+n)
	}
	for _, op := range list {
		if got := code.Name(op); got != "" {
			t.Errorf("P17.1: Name(%d) is %q", op, got)
		}
		if takes, gives, ok := code.Effect(api.Instr{Op: op}); takes != 0 || gives != 0 || ok {
			t.Errorf("P17.1: Effect of %d: %d %d %v", op, takes, gives, ok)
		}
	}
}

func TestP17_2Whole(t *testing.T) {
	wide := func(funcs, constants, names int) api.Program {
		p := program(leave())
		p.Funcs = append(p.Funcs, slices.Repeat([]api.Func{ofKind(api.KindDef)}, max(funcs-1, 0))...)[:funcs]
		p.Consts = slices.Repeat([]api.Const{{Kind: api.ValNone}}, constants)
		p.Names = slices.Repeat([]string{"n"}, names)
		return p
	}
	for _, row := range []struct {
		p    api.Program
		want int
	}{
		{api.Program{}, -1}, {wide(0, 1, 1), -1}, {wide(1, 1, 0), none}, {wide(2, 1, 1), none},
		{wide(api.MaxFuncs, 1, 1), none}, {wide(api.MaxFuncs+1, 1, 1), -1},
		{wide(1, api.MaxConsts, 1), none}, {wide(1, api.MaxConsts+1, 1), -1},
		{wide(1, 1, api.MaxConsts), none}, {wide(1, 1, api.MaxConsts+1), -1},
		{wide(1, api.MaxConsts, api.MaxConsts), none},
		{wide(1, 0, 0), 0}, // the constant that the function tells is not there
	} {
		offends(t, fmt.Sprint(len(row.p.Funcs), " ", len(row.p.Consts), " ", len(row.p.Names)), row.p, row.want)
	}
	// the whole is looked at ahead of the functions
	p := program(read("return"))
	p.Names[0] = ""
	offends(t, "a name, and a function", p, -1)
	p.Names[0] = "n"
	offends(t, "a function", p, 0)
}

func TestP17_2Consts(t *testing.T) {
	words := func(n int, last uint32) []uint32 { return append(make([]uint32, n-1), last) }
	num := func(neg bool, mag ...uint32) api.Int { return api.Int{Neg: neg, Mag: mag} }
	long := api.Int{Mag: words(api.MaxLimbs+1, 1)}
	for _, c := range []api.Const{
		{Kind: api.ValNone}, {Kind: api.ValBool}, {Kind: api.ValBool, Bool: true}, {Kind: api.ValInt}, {Kind: api.ValStr},
		{Kind: api.ValNone, Num: api.Int{Mag: []uint32{}}},
		{Kind: api.ValInt, Num: api.Int{Mag: []uint32{}}}, {Kind: api.ValInt, Num: num(false, 1)}, {Kind: api.ValInt, Num: num(true, 1)},
		{Kind: api.ValInt, Num: num(false, 0, 0, 1)}, {Kind: api.ValInt, Num: num(true, 0, math.MaxUint32)},
		{Kind: api.ValInt, Num: api.Int{Mag: words(api.MaxLimbs, 1)}}, {Kind: api.ValInt, Num: api.Int{Neg: true, Mag: words(api.MaxLimbs, math.MaxUint32)}},
		{Kind: api.ValStr, Text: "a"}, {Kind: api.ValStr, Text: "\t\n'\\\u00e9\U0001f600\ufffd"}, {Kind: api.ValStr, Text: strings.Repeat("a", api.MaxText+1)},
	} {
		p := program(leave())
		p.Consts = append(p.Consts, c)
		offends(t, fmt.Sprintf("%.200v", c), p, none)
	}
	var wrong []api.Const
	for kind := -3; kind < 30; kind++ {
		if kind < api.ValNone || kind > api.ValStr {
			wrong = append(wrong, api.Const{Kind: kind})
			continue
		}
		if kind != api.ValBool {
			wrong = append(wrong, api.Const{Kind: kind, Bool: true})
		}
		if kind != api.ValInt {
			wrong = append(wrong, api.Const{Kind: kind, Num: num(false, 1)}, api.Const{Kind: kind, Num: num(true)}, api.Const{Kind: kind, Num: num(false, 0)})
		}
		if kind != api.ValStr {
			wrong = append(wrong, api.Const{Kind: kind, Text: "a"})
		}
	}
	for _, n := range []api.Int{num(true), num(false, 0), num(true, 0), num(false, 1, 0), num(true, 5, 0, 0), num(false, 0, 0), long, {Neg: true, Mag: long.Mag}, {Mag: words(api.MaxLimbs+1, 0)}, {Mag: words(api.MaxLimbs, 0)}} {
		wrong = append(wrong, api.Const{Kind: api.ValInt, Num: n})
	}
	for _, s := range []string{"\xff", "a\x80", "\xed\xa0\x80", "\xc3", "\xc0\x80"} {
		wrong = append(wrong, api.Const{Kind: api.ValStr, Text: s})
	}
	for _, c := range wrong {
		for at := range 2 {
			p := program(leave())
			p.Consts = slices.Insert(p.Consts, at*len(p.Consts), c)
			offends(t, fmt.Sprintf("%.200v", c), p, -1)
		}
	}
}

func TestP17_2Names(t *testing.T) {
	for name, want := range map[string]int{
		"a": none, "_": none, "__init__": none, "Z9": none, "iff": none, "none": none, strings.Repeat("a", 5000): none, "print": none,
		"": -1, "9": -1, "9a": -1, "if": -1, "None": -1, "True": -1, "while": -1, "a b": -1, "a.b": -1, ".0": -1, "\u00e9": -1, "a\xff": -1, "a\n": -1, "a-": -1,
	} {
		for at := range 2 {
			p := program(leave())
			p.Names[at] = name
			offends(t, fmt.Sprintf("%.20q", name), p, want)
		}
	}
	// names of functions and of locals are any texts
	p := program(leave(), ofKind(api.KindDef))
	p.Funcs[0].Name, p.Funcs[0].Names = "if", []string{".0", ""}
	p.Funcs[1].Name, p.Funcs[1].Names = "a b", []string{"\u00e9", "a", "a"}
	offends(t, "names of locals", p, none)
}

func TestP17_2Kinds(t *testing.T) {
	for kind := -2; kind < 8; kind++ {
		f := ofKind(kind)
		first, later := none, none
		if kind != api.KindModule {
			first = 0
		}
		if kind != api.KindDef && kind != api.KindClass && kind != api.KindComp {
			later = 1
		}
		p := program(leave(), f)
		offends(t, fmt.Sprint("a later function of kind ", kind), p, later)
		p.Funcs = []api.Func{f}
		offends(t, fmt.Sprint("a first function of kind ", kind), p, first)
	}
}

// TestP17_2Numbers: rows say of which kinds a number may be what it is set to.
func TestP17_2Numbers(t *testing.T) {
	params := func(n int) func(*api.Func) {
		return func(f *api.Func) { f.Params, f.Names = n, make([]string, max(0, min(n, 2000))) }
	}
	defaults := func(params, n int) func(*api.Func) {
		return func(f *api.Func) { f.Params, f.Defaults, f.Names = params, n, make([]string, params) }
	}
	cells := func(n int) func(*api.Func) { return func(f *api.Func) { f.Cells = n } }
	frees := func(n int) func(*api.Func) { return func(f *api.Func) { f.Frees = n } }
	names := func(params, n int, rest bool) func(*api.Func) {
		return func(f *api.Func) { f.Params, f.Names, f.Rest = params, make([]string, n), rest }
	}
	length := func(n int) func(*api.Func) {
		return func(f *api.Func) { f.Code = join(slices.Repeat(read("pop"), max(0, n-2)), leave())[:n] }
	}
	for _, row := range []struct {
		what string
		turn func(*api.Func)
		good string // m, d, c, g: a module, a def, a class, a comp
	}{
		{"Params 0", params(0), "mdc"}, {"Params 1", params(1), "dg"}, {"Params 2", params(2), "d"}, {"Params MaxNames", params(1000), "d"},
		{"Params MaxNames + 1", params(1001), ""}, {"Params -1", params(-1), ""}, {"least Params", params(math.MinInt), ""}, {"greatest Params", params(math.MaxInt), ""},
		{"Defaults 0 of 0", defaults(0, 0), "mdc"}, {"Defaults 1 of 0", defaults(0, 1), ""}, {"Defaults 0 of 1", defaults(1, 0), "dg"}, {"Defaults 1 of 1", defaults(1, 1), "d"},
		{"Defaults 2 of 1", defaults(1, 2), ""}, {"Defaults -1", defaults(1, -1), ""}, {"Defaults MaxNames", defaults(1000, 1000), "d"},
		{"Defaults MaxNames + 1", defaults(1001, 1001), ""}, {"least Defaults", defaults(1, math.MinInt), ""}, {"greatest Defaults", defaults(1, math.MaxInt), ""},
		{"Cells 0", cells(0), "mdcg"}, {"Cells 1", cells(1), "mdcg"}, {"Cells MaxNames", cells(1000), "mdcg"}, {"Cells MaxNames + 1", cells(1001), ""},
		{"Cells -1", cells(-1), ""}, {"least Cells", cells(math.MinInt), ""}, {"greatest Cells", cells(math.MaxInt), ""},
		{"Frees 0", frees(0), "mdcg"}, {"Frees 1", frees(1), "dcg"}, {"Frees MaxNames", frees(1000), "dcg"}, {"Frees MaxNames + 1", frees(1001), ""},
		{"Frees -1", frees(-1), ""}, {"least Frees", frees(math.MinInt), ""}, {"greatest Frees", frees(math.MaxInt), ""},
		{"no Names for 0", names(0, 0, false), "mdc"}, {"no Names for 1", names(1, 0, false), ""}, {"1 Name for 1", names(1, 1, false), "dg"},
		{"2 Names for 1", names(1, 2, false), "dg"}, {"Rest without a Name", names(0, 0, true), ""}, {"Rest with a Name", names(0, 1, true), "d"},
		{"Rest and a Param, 1 Name", names(1, 1, true), ""}, {"Rest and a Param, 2 Names", names(1, 2, true), "d"}, {"more Names than MaxNames", names(0, 1001, false), "mdc"},
		{"MaxNames Params and Rest, MaxNames Names", names(1000, 1000, true), ""}, {"MaxNames Params and Rest, one Name more", names(1000, 1001, true), "d"},
		{"no instruction", length(0), ""},
	} {
		for k, letter := range "mdcg" {
			f := ofKind(k + 1)
			row.turn(&f)
			p, at := program(leave(), f), 1
			if k == 0 {
				p.Funcs, at = []api.Func{f}, 0
			}
			if strings.ContainsRune(row.good, letter) {
				at = none
			}
			offends(t, fmt.Sprintf("%s of %c", row.what, letter), p, at)
		}
	}
	if api.KindModule != 1 || api.KindDef != 2 || api.KindClass != 3 || api.KindComp != 4 {
		t.Error("the kinds are others")
	}
}

func TestP17_2Length(t *testing.T) {
	for n, right := range map[int]bool{api.MaxInstrs: true, api.MaxInstrs + 1: false} {
		// dicts and pops in turns, so that a way goes through all of them
		list := join(slices.Repeat(read("dict, pop"), n/2-1), leave())
		if n%2 == 1 {
			list = join(read("endtry"), list)
			list[0] = in("delglobal", 0)
		}
		if len(list) != n {
			t.Fatal(len(list))
		}
		offends(t, fmt.Sprint(n, " instructions"), program(list), map[bool]int{true: none, false: 0}[right])
		p := program(leave(), ofKind(api.KindClass))
		p.Funcs[1].Code = list
		offends(t, fmt.Sprint(n, " instructions, later"), p, map[bool]int{true: none, false: 1}[right])
	}
}

// TestP17_2Indexes: what an instruction tells is just there, or just not,
// where no way comes to it.
func TestP17_2Indexes(t *testing.T) {
	for _, e := range entries[1:] {
		class := ofKind(api.KindClass)
		class.Cells, class.Frees, class.Names = 2, 3, []string{"a", "b", "c", "d"}
		class.Code = join(leave(), []api.Instr{{Op: e.op}})
		def := ofKind(api.KindDef)
		p := program(leave(), class, def)
		count, ok := map[string]int{"a constant": len(p.Consts), "a name": len(p.Names), "a function but the first one": 3,
			"an instruction": 3, "a local": 4, "a cell or free": 5}[e.a]
		if !ok {
			continue
		}
		for _, a := range []int{math.MinInt, -1, 0, 1, count - 1, count, count + 1, math.MaxInt} {
			p.Funcs[1].Code[2].A = a
			want := none
			if a < 0 || a >= count || a == 0 && e.name == "func" {
				want = 1
			}
			offends(t, fmt.Sprint(e.name, " ", a), p, want)
		}
	}
	// a row of another function's is not this one's
	p := program(join(leave(), read("loadlocal 1")), ofKind(api.KindDef))
	offends(t, "another one's local", p, 0)
	p = program(join(leave(), read("jump 3")), ofKind(api.KindDef))
	p.Funcs[1].Code = join(leave(), leave())
	offends(t, "another one's instruction", p, 0)
	p = program(join(leave(), read("loadcell 1")), ofKind(api.KindDef))
	p.Funcs[1].Cells = 5
	offends(t, "another one's cell", p, 0)
}

// TestP17_2ByItself: an instruction that Effect does not take may not stand
// there, whether a way comes to it or not.
func TestP17_2ByItself(t *testing.T) {
	for op := -2; op < len(entries)+3; op++ {
		for _, a := range edges() {
			for _, b := range []int{-1, 0, 1, 2, 1000, 1001} {
				i := api.Instr{Op: op, A: a, B: b}
				if _, _, ok := modelEffect(i); ok {
					continue
				}
				for _, list := range [][]api.Instr{join(leave(), []api.Instr{i}), join(consts(5), []api.Instr{i}, leave())} {
					if n, e := code.Verify(program(list, ofKind(api.KindDef))); n != 0 || e != api.ErrShape {
						t.Errorf("P17.2: %v: %d, %d", i, n, e)
					}
				}
			}
		}
	}
}

func TestP17_2Func(t *testing.T) {
	def := ofKind(api.KindDef)
	def.Params, def.Defaults, def.Frees = 2, 2, 1
	for text, right := range map[string]bool{
		"const 0, const 0, pushcell 0, func 1 2, return":          true,
		"const 0, const 0, func 1 2, return":                      false, // its free is not there
		"const 0, const 0, pushcell 0, func 1 1, return":          false,
		"const 0, const 0, pushcell 0, const 0, func 1 3, return": false,
		"const 0, const 0, pushcell 0, func 0 2, return":          false,
		"const 0, const 0, pushcell 0, func 2 2, return":          false,
		"const 0, return, func 1 2":                               true,
		"const 0, return, func 1 1":                               false,
		"const 0, return, func 1 0":                               false,
		"const 0, return, func 0 0":                               false,
		"const 0, const 0, pushcell 0, dup, func 1 2, pop, pop":   false,
		"pushcell 0, dup, dup, dup, func 1 2, pop, return":        true,
	} {
		goes(t, text, read(text), right, def)
	}
	// one of each kind but the first, and one of itself
	for kind := api.KindDef; kind <= api.KindComp; kind++ {
		goes(t, "func", read("func 1 0, return"), true, ofKind(kind))
		f := ofKind(kind)
		f.Frees = 1
		f.Code = read("pushcell 0, func 1 0, return")
		goes(t, "func of itself", leave(), true, f)
		f.Code = read("func 1 0, return")
		offends(t, "func of itself without its free", program(leave(), f), 1)
	}
	def.Defaults, def.Frees = 0, api.MaxNames
	goes(t, "MaxNames frees", join(consts(api.MaxNames), read("func 1 0, return")), true, def)
	goes(t, "MaxNames frees, and one less", join(consts(api.MaxNames-1), read("func 1 0, return")), false, def)
}

// TestP17_2FuncOfAWrongOne: what a func takes is what the other function says,
// even if that one is wrong.
func TestP17_2FuncOfAWrongOne(t *testing.T) {
	for frees, want := range map[int]int{-1: 1, -998: 1, -999: 1, -1000: 0, 0: none, 1: 0, 1001: 0, math.MaxInt: 0, math.MaxInt - 1: 0, math.MinInt: 0, math.MinInt + 1: 0} {
		def := ofKind(api.KindDef)
		def.Frees = frees
		offends(t, fmt.Sprint("Frees ", frees), program(read("func 1 0, return"), def), want)
	}
	for frees, want := range map[int]int{0: 0, 1: 0, -999: 0, -1000: 1, -1001: 1, -1999: 1, -2000: 0, -2001: 0, math.MaxInt: 0, math.MinInt: 0} {
		def := ofKind(api.KindDef)
		def.Params, def.Defaults, def.Names, def.Frees = 1000, 1000, make([]string, 1000), frees
		offends(t, fmt.Sprint("MaxNames Defaults, Frees ", frees), program(read("func 1 1000, return"), def), want)
	}
	def := ofKind(api.KindDef)
	for defaults, want := range map[int]int{-1: 0, 1: 0, 0: none, math.MinInt: 0} {
		def.Defaults = defaults
		offends(t, fmt.Sprint("Defaults ", defaults), program(read("func 1 0, return"), def), want)
	}
	def.Defaults, def.Params, def.Names = 3, 2, nil
	offends(t, "Defaults that are wrong, and told so", program(read("const 0, dup, dup, func 1 3, return"), def), 1)
}

func TestP17_2ClassNames(t *testing.T) {
	for _, text := range []string{"loadname 0, return", "const 0, setname 0, const 0, return", "delname 0, const 0, return", "const 0, return, loadname 1"} {
		for kind := api.KindModule; kind <= api.KindComp; kind++ {
			f := ofKind(kind)
			f.Code = read(text)
			p, want := program(leave(), f), 1
			if kind == api.KindModule {
				p.Funcs, want = []api.Func{f}, 0
			}
			if kind == api.KindClass {
				want = none
			}
			offends(t, fmt.Sprint(text, " in ", kind), p, want)
		}
	}
}

// withAB are instructions of an Op, as many as there may be of its row.
func withAB(e entry, length int) (list []api.Instr) {
	as, bs := []int{0}, []int{0}
	switch e.a {
	case "1 to MaxStack", "1 to MaxNames":
		as = []int{1, 2, 7, 998, 999, 1000}
	case "0 to MaxItems":
		as = []int{0, 1, 2, 999, 1000, 1001, 65536}
	case "0 to MaxNames":
		as = []int{0, 1, 3, 998, 999, 1000}
	case "BinAdd to BinXor", "CompEq to CompIsNot", "a function but the first one":
		as = []int{1}
	case "an instruction":
		as = []int{length}
	}
	if e.b == "0 or 1" {
		bs = []int{0, 1}
	}
	if e.name == "func" {
		bs = []int{3}
	}
	for _, a := range as {
		for _, b := range bs {
			list = append(list, api.Instr{Op: e.op, A: a, B: b})
		}
	}
	return list
}

// needs is how many values must be there for an instruction: of a func beside
// a function with two frees.
func needs(i api.Instr) (takes, behind, there int) {
	takes, gives, _ := modelEffect(i)
	e := entries[i.Op]
	if e.name == "func" {
		takes += 2
	}
	behind, there = gives-takes, gives-takes
	if e.atA != "" {
		there = reckon(e.atA, i) - takes
	}
	return takes, behind, there
}

// TestP17_2Depths: each instruction with all that it takes, and with one less;
// with as many as the stack may have behind it, and with one more.
func TestP17_2Depths(t *testing.T) {
	other := ofKind(api.KindDef)
	other.Names = make([]string, 3)
	other.Params, other.Defaults, other.Frees = 3, 3, 2
	for _, e := range entries[1:] {
		if e.name == "endtry" || strings.HasSuffix(e.name, "name") && e.a == "a name" {
			continue // these need more than values: other tests
		}
		for _, i := range withAB(e, 0) {
			takes, behind, there := needs(i)
			least := takes
			if e.works {
				least += i.A
			}
			for _, n := range []int{least - 1, least, least + 1, 997, 998, 999, 1000, 1001} {
				if n < 0 || n > api.MaxStack+1 {
					continue
				}
				list := join(consts(n), []api.Instr{i}, read("jump 0"), read("jump 0"))
				list[n+1].A, list[n+2].A = n+1, n+2
				right := n >= least && n <= api.MaxStack
				if !e.ends {
					right = right && n+behind <= api.MaxStack
				}
				if e.leads {
					list[n].A = n + 2
					right = right && n+there <= api.MaxStack
				}
				goes(t, fmt.Sprint(n, " values, ", e.name, " ", i.A, " ", i.B), list, right, other)
			}
		}
	}
}

// TestP17_2Last: only what has nothing behind it may stand last.
func TestP17_2Last(t *testing.T) {
	other := ofKind(api.KindDef)
	other.Names = make([]string, 3)
	other.Params, other.Defaults = 3, 3
	for _, e := range entries[1:] {
		if strings.HasSuffix(e.name, "name") && e.a == "a name" {
			continue
		}
		i := withAB(e, 9)[0]
		list := join(read("try 0, const 0, const 0, const 0, const 0, const 0, jump 0, jump 0, jump 0"), []api.Instr{i})
		list[0].A, list[6].A, list[7].A, list[8].A = 7, 9, 7, 8
		if e.leads {
			list[9].A = 8
		}
		goes(t, e.name+", the last", list, e.ends, other)
		goes(t, e.name+", and jump", join(list, read("jump 10")), true, other)
		// without a way to it
		list[6].A = 6
		goes(t, e.name+", the last, without a way", list, true, other)
	}
	texts(t, true, "jump 0", "const 0, raise", "const 0, return", "const 0, return, pop", "const 0, return, endtry", "const 0, return, const 0", "jump 2, pop, jump 2")
	texts(t, false, "const 0", "dict", "const 0, if 0", "const 0, ifnot 0", "try 0", "const 0, dup", "jump 1, const 0")
}

func TestP17_2Meetings(t *testing.T) {
	texts(t, true,
		"const 0, if 3, jump 3, const 0, return",             // one depth
		"const 0, ifnot 4, const 0, jump 5, const 1, return", // a Choose
		"const 0, if 2, const 0, return",                     // both ways to one
		"const 0, or 3, const 0, return",                     // 1 at A, 0 and a const else
		"const 0, and 3, const 0, return",                    //
		"const 0, const 0, or 5, const 0, return, return",    // 2 at A, 1 behind
		"const 0, iter, next 5, storelocal 0, jump 2, const 0, return",
		"const 0, iter, next 4, return, const 0, return",
		"const 0, const 0, next 4, return, return",
		"jump 0", "const 0, pop, jump 0", "const 0, if 0, jump 0",
		"jump 3, const 0, return, jump 1",
		"const 0, jump 3, return, jump 2",
	)
	texts(t, false,
		"const 0, if 3, const 0, return",                   // 0 and 1
		"const 0, ifnot 3, const 0, return",                //
		"const 0, if 4, const 0, const 0, const 0, return", // 2 and 0
		"const 0, or 2, return",                            // 1 at A, 0 behind
		"const 0, and 2, return",                           //
		"const 0, or 3, return, return",                    // 0 behind
		"const 0, and 3, return, return",                   //
		"const 0, or 3, pop, return",                       //
		"const 0, iter, next 5, jump 2, const 0, return",   // 1, and 2
		"const 0, iter, next 4, return, return",            // 0 at A
		"const 0, next 3, pop, return",                     // 0 at A, 1
		"const 0, next 2, return",                          // 0 at A, 2
		"const 0, jump 0", "dup, jump 0", "const 0, pop, pop, jump 0",
		"const 0, const 0, if 0, jump 1", "const 0, if 3, const 0, jump 1",
	)
}

func TestP17_2Tries(t *testing.T) {
	texts(t, true,
		"try 4, endtry, const 0, return, raise",
		"try 3, const 0, return, return",              // left with an open try
		"const 0, try 3, return, pop, return",         // 2 at A
		"try 3, endtry, jump 4, pop, const 0, return", // both ways meet
		"try 2, jump 1, raise",
		"try 7, try 5, endtry, endtry, jump 8, pop, jump 3, pop, const 0, return", // within one another
		"try 5, try 4, endtry, jump 3, jump 4, jump 5",
		"const 0, if 5, try 10, jump 4, jump 6, try 9, endtry, const 0, return, return, return", // either one is open
		"const 0, return, endtry",
		"const 0, try 5, pop, const 0, raise, pop, return", // what was there ahead of the try may go
		"try 2, jump 1, pop, jump 0",                       // anew
	)
	texts(t, false,
		"endtry, const 0, return",
		"try 3, endtry, endtry, raise",                      // one is open, not two
		"try 3, const 0, return, endtry, raise",             // none is open at A
		"try 2, jump 0, raise",                              // 0 and 1
		"try 4, const 0, if 4, jump 3, pop, const 0, raise", // two depths
		"try 3, jump 4, jump 2, pop, const 0, return",       // 1 and 0
		"try 1, return",                                     // 1 at A, 0 behind
		"try 7, try 5, endtry, endtry, jump 8, pop, jump 4, pop, const 0, return",
		"try 7, try 5, endtry, endtry, jump 8, pop, jump 2, pop, const 0, return",
		"const 0, if 3, try 6, endtry, const 0, return, return", // open on one way alone
		"const 0, if 3, endtry, const 0, return",
		"const 0, or 3, endtry, jump 0",
		"try 2, jump 0, pop, jump 0",
		"try 0, const 0, return", // 0 at the first one, and 1
	)
	manyTries(t, 30000, 29999, true)
	manyTries(t, 30000, 30000, true)
	manyTries(t, 30000, 30001, false)
}

// manyTries opens tries, each with a place of its own to lead to, and closes
// some.
func manyTries(t *testing.T, opened, closed int, right bool) {
	list := join(slices.Repeat(read("try 0"), opened), slices.Repeat(read("endtry"), closed))
	for range opened + 1 {
		list = append(list, in("jump", len(list)))
	}
	for k := range opened {
		list[k].A = opened + closed + 1 + k
	}
	goes(t, fmt.Sprint(opened, " tries, ", closed, " endtrys"), list, right)
}

// TestP17_2FirstOfMany: the first function that offends is told, however many
// do and however long it takes.
func TestP17_2FirstOfMany(t *testing.T) {
	long := ofKind(api.KindDef)
	long.Code = join(slices.Repeat(read("dict, pop"), 20000), read("pop"))
	short := ofKind(api.KindDef)
	short.Code = read("return")
	numbers := ofKind(api.KindModule)
	for range 20 {
		offends(t, "a long one ahead", program(leave(), ofKind(api.KindDef), long, short, numbers), 2)
		offends(t, "a short one ahead", program(leave(), short, long), 1)
		offends(t, "numbers ahead", program(leave(), ofKind(api.KindComp), ofKind(api.KindClass), numbers, long, short), 3)
		offends(t, "the module ahead", program(long.Code, short, numbers), 0)
	}
	p := program(leave(), slices.Repeat([]api.Func{ofKind(api.KindDef)}, 3000)...)
	offends(t, "none", p, none)
	for _, at := range []int{3000, 2999, 1500, 700, 1, 0} {
		p.Funcs[at].Code = read("const 0")
		offends(t, fmt.Sprint("from the last one on: ", at), p, at)
	}
}

func TestP17_3Print(t *testing.T) {
	rest := api.Func{Kind: api.KindDef, Name: "f", Names: []string{"a", "b", "r"}, Params: 2, Defaults: 1, Rest: true, Cells: 3, Frees: 4, Code: leave()}
	plain := api.Func{Kind: api.KindDef, Code: read("const 0, return, jump 0")}
	class := api.Func{Kind: api.KindClass, Name: "K", Frees: 1, Code: read("loadname 1, setname 0, const 4, return")}
	comp := api.Func{Kind: api.KindComp, Names: []string{".0"}, Params: 1, Code: read("list 0, loadlocal 0, next 5, append 2, jump 2, return")}
	p := program(read("const 1, pop, const 2, const 3, const 4, tuple 3, setglobal 1, func 2 0, dup, call 0 0, dict, call 0 1, loadglobal 0, func 3 0, class 1 1, binary 8, unpack 2, pop, pushcell 0, return"),
		rest, plain, class, comp)
	p.Funcs[0].Name = "main"
	p.Funcs[3].Frees = 0
	want := `module main 0 0 1 0
 0 const True
 1 pop
 2 const False
 3 const -7
 4 const 'it\'s'
 5 tuple 3
 6 setglobal _m1
 7 func 2 0
 8 dup
 9 call 0 0
 10 dict
 11 call 0 1
 12 loadglobal n
 13 func 3 0
 14 class _m1 1
 15 binary 8
 16 unpack 2
 17 pop
 18 pushcell 0
 19 return
def f 2 1 rest 3 4
 0 const None
 1 return
def 0 0 0 0
 0 const None
 1 return
 2 jump 0
class K 0 0 0 0
 0 loadname _m1
 1 setname n
 2 const 'it\'s'
 3 return
comp 1 0 0 0
 0 list 0
 1 loadlocal 0
 2 next 5
 3 append 2
 4 jump 2
 5 return
`
	offends(t, "Print", p, none)
	if got := code.Print(p); got != want {
		t.Errorf("P17.3: got %s", got)
	}
	p.Funcs[4].Code[5].Op = api.OpPop
	if got := code.Print(p); got != "" {
		t.Errorf("P17.3: of a program that is wrong: %q", got)
	}
	if got := code.Print(api.Program{}); got != "" {
		t.Errorf("P17.3: of nothing: %q", got)
	}
}

func TestP17_3Constants(t *testing.T) {
	great := api.Int{Mag: append(make([]uint32, api.MaxLimbs-1), 1)}
	for _, row := range []struct {
		c    api.Const
		want string
	}{
		{api.Const{Kind: api.ValNone}, "None"}, {api.Const{Kind: api.ValBool, Bool: true}, "True"}, {api.Const{Kind: api.ValBool}, "False"},
		{api.Const{Kind: api.ValInt}, "0"}, {api.Const{Kind: api.ValInt, Num: api.Int{Mag: []uint32{0, 1}}}, "4294967296"},
		{api.Const{Kind: api.ValInt, Num: api.Int{Neg: true, Mag: []uint32{0, 0, 1}}}, "-18446744073709551616"},
		{api.Const{Kind: api.ValInt, Num: great}, bigOf(great).String()},
		{api.Const{Kind: api.ValStr}, "''"}, {api.Const{Kind: api.ValStr, Text: "None"}, "'None'"}, {api.Const{Kind: api.ValStr, Text: "\u00e9 \"\\"}, "'\u00e9 \"\\\\'"},
		{api.Const{Kind: api.ValStr, Text: "\n\t\x00\x7f\u0080\u2028'"}, `'\n\t\x00\x7f\u0080\u2028\''`},
	} {
		p := program(read("const 1, pop, const 1, return"))
		p.Consts = []api.Const{{Kind: api.ValStr, Text: "another"}, row.c}
		want := "module 0 0 1 0\n 0 const " + row.want + "\n 1 pop\n 2 const " + row.want + "\n 3 return\n"
		if got := code.Print(p); got != want {
			t.Errorf("P17.3: got %q, want %q", got, want)
		}
	}
}

// TestP17_3Rows: each row, with A and B as the table names them.
func TestP17_3Rows(t *testing.T) {
	for _, e := range entries[1:] {
		class := ofKind(api.KindClass)
		class.Cells = 2
		a, b, say := 1, 0, " 1"
		switch e.a {
		case "":
			a, say = 0, ""
		case "a constant":
			say = " True"
		case "a name":
			say = " _m1"
		}
		switch e.b {
		case "0 or 1":
			b, say = 1, say+" 1"
		case "0 to MaxNames":
			say += " 0"
		}
		class.Code = join(leave(), []api.Instr{{Op: e.op, A: a, B: b}})
		p := program(leave(), class)
		want := "module 0 0 1 0\n 0 const None\n 1 return\nclass 0 0 2 0\n 0 const None\n 1 return\n 2 " + e.name + say + "\n"
		offends(t, e.name, p, none)
		if got := code.Print(p); got != want {
			t.Errorf("P17.3: got %q, want %q", got, want)
		}
	}
}

// everything is a program with something in every list.
func everything() api.Program {
	f := api.Func{Kind: api.KindDef, Name: "f", Names: []string{"a", "b", "r"}, Params: 2, Defaults: 1, Rest: true, Frees: 1, Code: read("try 3, loadlocal 0, return, raise")}
	return program(read("const 4, pushcell 0, func 1 1, setglobal 1, const 3, return"), f, ofKind(api.KindClass))
}

func copied(p api.Program) api.Program {
	p.Funcs, p.Consts, p.Names = slices.Clone(p.Funcs), slices.Clone(p.Consts), slices.Clone(p.Names)
	for i := range p.Funcs {
		p.Funcs[i].Names, p.Funcs[i].Code = slices.Clone(p.Funcs[i].Names), slices.Clone(p.Funcs[i].Code)
	}
	for i := range p.Consts {
		p.Consts[i].Num.Mag = slices.Clone(p.Consts[i].Num.Mag)
	}
	return p
}

// widen gives a list spare room, with something in it.
func widen[T any](list []T, spare T) []T {
	wide := append(slices.Clone(list), spare, spare)
	return wide[:len(list)]
}

func roomy(p api.Program) api.Program {
	p = copied(p)
	for i := range p.Funcs {
		f := &p.Funcs[i]
		f.Names, f.Code = widen(f.Names, "spare"), widen(f.Code, api.Instr{Op: 77, A: 78, B: 79})
	}
	for i := range p.Consts {
		p.Consts[i].Num.Mag = widen(p.Consts[i].Num.Mag, 77)
	}
	p.Funcs = widen(p.Funcs, api.Func{Name: "spare"})
	p.Consts = widen(p.Consts, api.Const{Kind: 77})
	p.Names = widen(p.Names, "spare")
	return p
}

// rooms is all that a program holds, its spare room with it.
func rooms(p api.Program) string {
	var out strings.Builder
	for _, f := range p.Funcs[:cap(p.Funcs)] {
		fmt.Fprint(&out, f, f.Names[:cap(f.Names)], f.Code[:cap(f.Code)])
	}
	for _, c := range p.Consts[:cap(p.Consts)] {
		fmt.Fprint(&out, c, c.Num.Mag[:cap(c.Num.Mag)])
	}
	return fmt.Sprint(out.String(), p.Names[:cap(p.Names)])
}

func TestP17_5HandedIn(t *testing.T) {
	wrong := everything()
	wrong.Funcs[1].Code = read("pop")
	bad := everything()
	bad.Names[0] = "if"
	for _, p := range []api.Program{everything(), wrong, bad, {}} {
		before := copied(p)
		p = roomy(p)
		room := rooms(p)
		n, e := code.Verify(p)
		text := code.Print(p)
		if rooms(p) != room || fmt.Sprint(copied(p)) != fmt.Sprint(before) {
			t.Errorf("P17.5: it was changed: %s", rooms(p))
		}
		was := strings.Clone(text)
		for i := range p.Names {
			p.Names[i] = "spoilt"
		}
		for i := range p.Funcs {
			p.Funcs[i].Name = "spoilt"
			for k := range p.Funcs[i].Code {
				p.Funcs[i].Code[k] = api.Instr{Op: 99}
			}
		}
		for i := range p.Consts {
			p.Consts[i].Text = "spoilt"
		}
		if text != was {
			t.Error("P17.5: what was answered is turned")
		}
		if len(p.Funcs) > 0 {
			if n, e := code.Verify(p); n < -1 || e != api.ErrShape || code.Print(p) != "" {
				t.Errorf("P17.5: what was handed in is kept: %d, %d", n, e)
			}
		}
		if m, f := code.Verify(before); m != n || f != e || code.Print(before) != text {
			t.Errorf("P17.5: got %d, %d, then %d, %d", n, e, m, f)
		}
	}
}

// TestP17_5Turned: a program that is turned behind a call is another one.
func TestP17_5Turned(t *testing.T) {
	p := everything()
	offends(t, "everything", p, none)
	p.Funcs[1].Code[1] = in("pop")
	offends(t, "with a pop", p, 1)
	p.Funcs[1].Code[1] = in("const", 4)
	offends(t, "with a const", p, none)
	first := code.Print(p)
	p.Consts[4].Text, p.Names[1], p.Funcs[1].Name = "else", "m", "g"
	offends(t, "with other texts", p, none)
	if second := code.Print(p); second == first || !strings.Contains(second, "'else'") || !strings.Contains(second, "setglobal m\n") || !strings.Contains(second, "def g ") {
		t.Errorf("P17.5: Print: %s", second)
	}
	p.Consts[4].Text = "\xff"
	offends(t, "with a bad text", p, -1)
}

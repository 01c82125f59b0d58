package code_test

import (
	"fmt"
	"math"
	"math/big"
	"regexp"
	"slices"
	"strconv"
	"strings"
	"unicode/utf8"

	"lexicon/api"
)

// The model reads the chapter's table as it stands there.
const chapterTable = `
| OpConst | const | a constant | | 0 | 1 |
| OpPop | pop | | | 1 | 0 |
| OpDup; OpDup2 | dup; dup2 | | | 1; 2 | 2; 4 |
| OpSwap; OpTurn | swap; turn | | | 2; 3 | 2; 3 |
| OpLoadLocal; OpStoreLocal; OpDelLocal | loadlocal; storelocal; dellocal | a local | | 0; 1; 0 | 1; 0; 0 |
| OpLoadCell; OpStoreCell; OpDelCell; OpPushCell | loadcell; storecell; delcell; pushcell | a cell or free | | 0; 1; 0; 0 | 1; 0; 0; 1 |
| OpLoadGlobal; OpSetGlobal; OpDelGlobal | loadglobal; setglobal; delglobal | a name | | 0; 1; 0 | 1; 0; 0 |
| OpLoadName; OpSetName; OpDelName | loadname; setname; delname | a name | | 0; 1; 0 | 1; 0; 0 |
| OpLoadAttr; OpSetAttr; OpDelAttr | loadattr; setattr; delattr | a name | | 1; 2; 1 | 1; 0; 0 |
| OpLoadIndex; OpSetIndex; OpDelIndex | loadindex; setindex; delindex | | | 2; 3; 2 | 1; 0; 0 |
| OpNegative; OpNot | negative; not | | | 1 | 1 |
| OpBinary; OpCompare | binary; compare | BinAdd to BinXor; CompEq to CompIsNot | | 2 | 1 |
| OpTuple; OpList | tuple; list | 0 to MaxItems | | A | 1 |
| OpDict; OpSet | dict; set | | | 0 | 1 |
| OpAddPair; OpAddItem; OpAppend; OpMerge; OpKeyword | addpair; additem; append; merge; keyword | 1 to MaxStack | | 2; 1; 1; 1; 1 | 0 |
| OpUnpack | unpack | 1 to MaxNames | | 1 | A |
| OpJump | jump | an instruction | | 0 | 0 |
| OpIf; OpIfNot | if; ifnot | an instruction | | 1 | 0 |
| OpOr; OpAnd | or; and | an instruction | | 1 | 0 (1 at A) |
| OpIter | iter | | | 1 | 1 |
| OpNext | next | an instruction | | 1 | 2 (0 at A) |
| OpCall | call | 0 to MaxNames | 0 or 1 | A + 1 + B | 1 |
| OpReturn | return | | | 1 | 0 |
| OpFunc | func | a function but the first one | 0 to MaxNames | B, and that function's Frees | 1 |
| OpClass | class | a name | 0 or 1 | 1 + B | 1 |
| OpTry | try | an instruction | | 0 | 0 (1 at A) |
| OpEndTry | endtry | | | 0 | 0 |
| OpMatch | match | | | 2 | 1 |
| OpRaise | raise | | | 1 | 0 |
`

// opNames are in the order of their numbers, from 1 on.
const opNames = "OpConst OpPop OpDup OpDup2 OpSwap OpTurn OpLoadLocal OpStoreLocal OpDelLocal OpLoadCell OpStoreCell OpDelCell OpPushCell " +
	"OpLoadGlobal OpSetGlobal OpDelGlobal OpLoadName OpSetName OpDelName OpLoadAttr OpSetAttr OpDelAttr OpLoadIndex OpSetIndex OpDelIndex " +
	"OpNegative OpNot OpBinary OpCompare OpTuple OpList OpDict OpSet OpAddPair OpAddItem OpAppend OpMerge OpUnpack OpJump OpIf OpIfNot OpOr OpAnd " +
	"OpIter OpNext OpCall OpReturn OpFunc OpClass OpTry OpEndTry OpMatch OpRaise OpKeyword"

// entry is a row's words for one Op.
type entry struct {
	op                 int
	name, a, b         string
	takes, gives, atA  string
	leads, works, ends bool
}

// entries are by their Op, with nothing at 0.
var entries = readTable()

func readTable() []entry {
	ops := strings.Fields(opNames)
	list := make([]entry, len(ops)+1)
	for _, line := range strings.Split(strings.TrimSpace(chapterTable), "\n") {
		cells := strings.Split(strings.Trim(line, "|"), "|")
		for k, op := range strings.Split(cells[0], ";") {
			pick := func(column int) string {
				parts := strings.Split(cells[column], ";")
				return strings.TrimSpace(parts[min(k, len(parts)-1)])
			}
			e := entry{op: slices.Index(ops, strings.TrimSpace(op)) + 1, name: pick(1), a: pick(2), b: pick(3), takes: pick(4), gives: pick(5)}
			if first, rest, ok := strings.Cut(e.gives, " ("); ok {
				e.gives, e.atA = first, strings.TrimSuffix(rest, " at A)")
			}
			e.leads = e.a == "an instruction"
			e.works = e.a == "1 to MaxStack"
			e.ends = slices.Contains([]string{"jump", "return", "raise"}, e.name)
			list[e.op] = e
		}
	}
	return list
}

func opOf(name string) int {
	at := slices.IndexFunc(entries, func(e entry) bool { return e.name == name })
	if at < 1 {
		panic("no instruction " + name)
	}
	return at
}

// allows is the least and the greatest number of a column's words.
func allows(words string) (least, most int) {
	switch words {
	case "":
		return 0, 0
	case "a constant", "a local", "a cell or free", "a name", "an instruction":
		return 0, math.MaxInt
	case "a function but the first one":
		return 1, math.MaxInt
	case "BinAdd to BinXor":
		return api.BinAdd, api.BinXor
	case "CompEq to CompIsNot":
		return api.CompEq, api.CompIsNot
	case "0 to MaxItems":
		return 0, api.MaxItems
	case "1 to MaxStack":
		return 1, api.MaxStack
	case "1 to MaxNames":
		return 1, api.MaxNames
	case "0 to MaxNames":
		return 0, api.MaxNames
	case "0 or 1":
		return 0, 1
	}
	panic(words)
}

// reckon is the number of a column's words.
func reckon(words string, i api.Instr) int {
	switch words {
	case "A":
		return i.A
	case "1 + B":
		return 1 + i.B
	case "A + 1 + B":
		return i.A + 1 + i.B
	case "B, and that function's Frees":
		return i.B
	}
	n, err := strconv.Atoi(words)
	if err != nil {
		panic(words)
	}
	return n
}

func modelEffect(i api.Instr) (takes, gives int, ok bool) {
	if i.Op < 1 || i.Op >= len(entries) {
		return 0, 0, false
	}
	e := entries[i.Op]
	least, most := allows(e.a)
	low, high := allows(e.b)
	if i.A < least || i.A > most || i.B < low || i.B > high {
		return 0, 0, false
	}
	return reckon(e.takes, i), reckon(e.gives, i), true
}

// modelVerify asks one function behind the other.
func modelVerify(p api.Program) (int, api.Errno) {
	if !modelWhole(p) {
		return -1, api.ErrShape
	}
	for n := range p.Funcs {
		if !modelRight(p, n) {
			return n, api.ErrShape
		}
	}
	return 0, api.OK
}

var (
	namePattern = regexp.MustCompile(`^[A-Za-z_][A-Za-z_0-9]*$`)
	wordPattern = regexp.MustCompile(`^(and|as|break|class|continue|def|del|elif|else|except|False|for|global|if|in|is|None|nonlocal|not|or|pass|raise|return|True|try|while)$`)
)

func modelWhole(p api.Program) bool {
	if len(p.Funcs) < 1 || len(p.Funcs) > 10000 || len(p.Consts) > 100000 || len(p.Names) > 100000 {
		return false
	}
	for _, c := range p.Consts {
		if !modelConst(c) {
			return false
		}
	}
	return !slices.ContainsFunc(p.Names, func(s string) bool {
		return !namePattern.MatchString(s) || wordPattern.MatchString(s)
	})
}

// modelConst takes out what the kind has: nothing may be left.
func modelConst(c api.Const) bool {
	switch c.Kind {
	case api.ValNone:
	case api.ValBool:
		c.Bool = false
	case api.ValInt:
		if len(c.Num.Mag) > 256 || !sameInt(c.Num, formOf(c.Num)) {
			return false
		}
		c.Num = api.Int{}
	case api.ValStr:
		if !utf8.ValidString(c.Text) {
			return false
		}
		c.Text = ""
	default:
		return false
	}
	return !c.Bool && !c.Num.Neg && len(c.Num.Mag) == 0 && c.Text == ""
}

func sameInt(a, b api.Int) bool { return a.Neg == b.Neg && slices.Equal(a.Mag, b.Mag) }

func bigOf(n api.Int) *big.Int {
	b := new(big.Int)
	for _, word := range slices.Backward(n.Mag) {
		b.Add(b.Lsh(b, 32), big.NewInt(int64(word)))
	}
	if n.Neg {
		b.Neg(b)
	}
	return b
}

func formOf(n api.Int) api.Int {
	b := bigOf(n)
	f := api.Int{Neg: b.Sign() < 0}
	for b.Abs(b); b.Sign() > 0; b.Rsh(b, 32) {
		f.Mag = append(f.Mag, uint32(b.Uint64()))
	}
	return f
}

func modelRight(p api.Program, number int) bool {
	f := p.Funcs[number]
	if (f.Kind == api.KindModule) != (number == 0) || !modelNumbers(f) {
		return false
	}
	for _, i := range f.Code {
		if !modelStands(p, f, i) {
			return false
		}
	}
	return modelWays(p, f)
}

func modelNumbers(f api.Func) bool {
	within := func(n, least, most int) bool { return n >= least && n <= most }
	least := f.Params
	if f.Rest {
		least = f.Params + 1
	}
	params, defaults, frees := [2]int{0, 0}, 0, api.MaxNames
	switch f.Kind {
	case api.KindModule:
		frees = 0
	case api.KindDef:
		params, defaults = [2]int{0, api.MaxNames}, f.Params
	case api.KindClass:
	case api.KindComp:
		params = [2]int{1, 1}
	default:
		return false
	}
	return within(f.Params, params[0], params[1]) && within(f.Defaults, 0, defaults) &&
		within(f.Cells, 0, api.MaxNames) && within(f.Frees, 0, frees) &&
		(f.Kind == api.KindDef || !f.Rest) && len(f.Names) >= least && within(len(f.Code), 1, 100000)
}

func modelStands(p api.Program, f api.Func, i api.Instr) bool {
	if _, _, ok := modelEffect(i); !ok {
		return false
	}
	e := entries[i.Op]
	if i.A >= modelCount(p, f, e.a) {
		return false
	}
	if e.name == "func" && i.B != p.Funcs[i.A].Defaults {
		return false
	}
	return f.Kind == api.KindClass || !slices.Contains([]string{"loadname", "setname", "delname"}, e.name)
}

func modelCount(p api.Program, f api.Func, words string) int {
	switch words {
	case "a constant":
		return len(p.Consts)
	case "a name":
		return len(p.Names)
	case "a function but the first one":
		return len(p.Funcs)
	case "an instruction":
		return len(f.Code)
	case "a local":
		return len(f.Names)
	case "a cell or free":
		return f.Cells + f.Frees
	}
	return math.MaxInt
}

// with is what an instruction is come to with. Depths are floats: they don't
// wrap round.
type with struct {
	depth float64
	tries int
}

// modelWays hands on, round by round, all that each instruction is come to
// with, till nothing new comes.
func modelWays(p api.Program, f api.Func) bool {
	came := make([][]with, len(f.Code))
	came[0] = []with{{}}
	for more := true; more; {
		more = false
		for at, i := range f.Code {
			for _, w := range came[at] {
				next, ok := modelBehind(p, i, at, w)
				if !ok {
					return false
				}
				for to, x := range next {
					if to >= len(f.Code) {
						return false
					}
					if !slices.Contains(came[to], x) {
						came[to], more = append(came[to], x), true
					}
					if len(came[to]) > 1 {
						return false
					}
				}
			}
		}
	}
	return true
}

// modelBehind is what stands behind an instruction; none, if it can't be done,
// or one instruction would be come to with two things.
func modelBehind(p api.Program, i api.Instr, at int, w with) (map[int]with, bool) {
	e := entries[i.Op]
	takes, gives, _ := modelEffect(i)
	left := w.depth - float64(takes)
	if e.name == "func" {
		left -= float64(p.Funcs[i.A].Frees)
	}
	if left < 0 || e.works && left < float64(i.A) || e.name == "endtry" && w.tries == 0 {
		return nil, false
	}
	next := map[int]with{}
	if !e.ends {
		x := with{left + float64(gives), w.tries}
		switch e.name {
		case "try":
			x.tries++
		case "endtry":
			x.tries--
		}
		next[at+1] = x
	}
	if e.leads {
		x := with{left + float64(gives), w.tries}
		if e.atA != "" {
			x.depth = left + float64(reckon(e.atA, i))
		}
		if other, ok := next[i.A]; ok && other != x {
			return nil, false
		}
		next[i.A] = x
	}
	for _, x := range next {
		if x.depth > api.MaxStack {
			return nil, false
		}
	}
	return next, true
}

var quotes = strings.NewReplacer(`\`, `\\`, `'`, `\'`, "\n", `\n`, "\t", `\t`)

// modelPrint is of a program that is right, whose texts have no bytes that are
// told by numbers.
func modelPrint(p api.Program) string {
	var out strings.Builder
	for _, f := range p.Funcs {
		name, rest := "", ""
		if f.Name != "" {
			name = " " + f.Name
		}
		if f.Rest {
			rest = " rest"
		}
		kind := map[int]string{api.KindModule: "module", api.KindDef: "def", api.KindClass: "class", api.KindComp: "comp"}[f.Kind]
		fmt.Fprintf(&out, "%s%s %d %d%s %d %d\n", kind, name, f.Params, f.Defaults, rest, f.Cells, f.Frees)
		for at, i := range f.Code {
			e := entries[i.Op]
			fmt.Fprintf(&out, " %d %s", at, e.name)
			switch e.a {
			case "":
			case "a constant":
				fmt.Fprint(&out, " ", modelText(p.Consts[i.A]))
			case "a name":
				fmt.Fprint(&out, " ", p.Names[i.A])
			default:
				fmt.Fprint(&out, " ", i.A)
			}
			if e.b != "" {
				fmt.Fprint(&out, " ", i.B)
			}
			fmt.Fprintln(&out)
		}
	}
	return out.String()
}

func modelText(c api.Const) string {
	switch c.Kind {
	case api.ValNone:
		return "None"
	case api.ValBool:
		return map[bool]string{true: "True", false: "False"}[c.Bool]
	case api.ValInt:
		return bigOf(c.Num).String()
	}
	return "'" + quotes.Replace(c.Text) + "'"
}

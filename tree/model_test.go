package tree_test

import (
	"fmt"
	"math/big"
	"math/rand"
	"regexp"
	"strings"
	"unicode/utf8"

	"lexicon/api"
	"lexicon/letters"
)

// kindNames are the kinds by their numbers, as the chapter writes them.
var kindNames = map[int]string{
	0: "None", 1: "Module", 2: "Block", 3: "Expr", 4: "Assign", 5: "Unpack", 6: "Augment", 7: "Del", 8: "Pass",
	9: "Break", 10: "Continue", 11: "Return", 12: "Raise", 13: "Global", 14: "Nonlocal", 15: "If", 16: "While",
	17: "For", 18: "Def", 19: "Param", 20: "Class", 21: "Try", 22: "Except", 23: "Targets",
	31: "Name", 32: "Int", 33: "Str", 34: "Const", 35: "Tuple", 36: "List", 37: "Set", 38: "Dict", 39: "Pair",
	40: "Spread", 41: "ListComp", 42: "SetComp", 43: "DictComp", 44: "Choose", 45: "Or", 46: "And", 47: "Not",
	48: "Compare", 49: "Binary", 50: "Negative", 51: "Call", 52: "Keyword", 53: "Attr", 54: "Index",
}

// kindOf is a kind by its name.
func kindOf(name string) int {
	for kind, other := range kindNames {
		if other == name {
			return kind
		}
	}
	panic("no kind " + name)
}

// grow reads nodes as the chapter's examples write them: "Attr x(Int 5)", and
// a comma between those that stand beside each other.
func grow(notation string) []api.Node {
	list, rest := growList(notation)
	if rest != "" {
		panic("left over: " + rest)
	}
	return list
}

var nodeHead = regexp.MustCompile(`^([A-Z][A-Za-z]*)( [^(),]+)?`)

func growList(s string) (list []api.Node, rest string) {
	for s != "" && s[0] != ')' {
		m := nodeHead.FindStringSubmatch(s)
		if m == nil {
			panic("no node: " + s)
		}
		s = s[len(m[0]):]
		n := api.Node{Kind: kindOf(m[1]), Text: strings.TrimPrefix(m[2], " ")}
		if n.Kind == api.NodeInt {
			n.Num, n.Text = number(n.Text), ""
		}
		if strings.HasPrefix(s, "(") {
			n.Kids, s = growList(s[1:])
			s = strings.TrimPrefix(s, ")")
		}
		list = append(list, n)
		s = strings.TrimPrefix(s, ", ")
	}
	return list, s
}

// one is a notation's only node.
func one(notation string) api.Node {
	list := grow(notation)
	if len(list) != 1 {
		panic("not one: " + notation)
	}
	return list[0]
}

// module is a module of statements.
func module(notation string) api.Node { return moduleOf(grow(notation)...) }

func moduleOf(list ...api.Node) api.Node {
	return api.Node{Kind: api.NodeModule, Kids: []api.Node{{Kind: api.NodeBlock, Kids: list}}}
}

// number is the Int of decimal digits.
func number(digits string) api.Int {
	v, ok := new(big.Int).SetString(digits, 10)
	if !ok {
		panic("no number " + digits)
	}
	var x api.Int
	for v.Sign() > 0 {
		x.Mag = append(x.Mag, uint32(new(big.Int).And(v, big.NewInt(1<<32-1)).Uint64()))
		v.Rsh(v, 32)
	}
	return x
}

func digits(x api.Int) string {
	v := new(big.Int)
	for i := len(x.Mag) - 1; i >= 0; i-- {
		v.Lsh(v, 32)
		v.Add(v, big.NewInt(int64(x.Mag[i])))
	}
	return v.String()
}

// rowText and rowKids are the chapter's table: a Text as a regular expression,
// Kids as one of their tags, in which S, E, T, L, B stand for a statement, an
// expression, a target, targets, an inner Block.
var (
	nameText = `[A-Za-z_][A-Za-z0-9_]*`
	signText = `\+|-|\*|//|%|&|\||\^`

	rowText = map[string]string{
		"Augment": signText, "Def": nameText, "Param": nameText, "Class": nameText, "Except": `(` + nameText + `)?`,
		"Name": nameText, "Str": `(?s:.*)`, "Const": `None|True|False`, "Compare": `==|!=|<|<=|>|>=|in|not in|is|is not`,
		"Binary": signText, "Keyword": nameText, "Attr": nameText,
	}
	rowKids = map[string]string{
		"None": ``, "Module": `(Block|Empty) `, "Block": `S*`, "Expr": `E`, "Assign": `TE`, "Unpack": `Targets E`,
		"Augment": `TE`, "Del": `T`, "Pass": ``, "Break": ``, "Continue": ``, "Return": `(E|None )`, "Raise": `(E|None )`,
		"Global": `(Name )+`, "Nonlocal": `(Name )+`, "If": `EB(B|None )`, "While": `EB`, "For": `LEB`,
		"Def": `(Param )*(ParamGiven )*(ParamRest )?B`, "Param": `(E|None )?`, "Class": `(E|None )B`,
		"Try": `B(Except )*(Except |ExceptAny )`, "Except": `(E|None )B`, "Targets": `TTT*`,
		"Name": ``, "Int": ``, "Str": ``, "Const": ``, "Tuple": `E*`, "List": `E*`, "Set": `E+`, "Dict": `(Pair |Spread )*`,
		"Pair": `EE`, "Spread": `E`, "ListComp": `ELEE*`, "SetComp": `ELEE*`, "DictComp": `Pair LEE*`, "Choose": `EEE`,
		"Or": `EE`, "And": `EE`, "Not": `E`, "Negative": `E`, "Compare": `EE`, "Binary": `EE`,
		"Call": `EE*(Keyword )*(Spread )?`, "Keyword": `E`, "Attr": `E`, "Index": `EE`,
	}
	rowMatch = compileRows()
)

const wordList = " and as break class continue def del elif else except False for global if in is None nonlocal not or pass raise return True try while "

func compileRows() map[string][2]*regexp.Regexp {
	letter := strings.NewReplacer(
		"S", `(?:(?:Expr|Assign|Unpack|Augment|Del|Pass|Break|Continue|Return|Raise|Global|Nonlocal|If|While|For|Def|Class|Try) )`,
		"E", `(?:(?:Name|Int|Str|Const|Tuple|List|Set|Dict|ListComp|SetComp|DictComp|Choose|Or|And|Not|Compare|Binary|Negative|Call|Attr|Index) )`,
		"L", `(?:(?:Name|Attr|Index|Targets) )`,
		"T", `(?:(?:Name|Attr|Index) )`,
		"B", `(?:Block )`)
	rows := map[string][2]*regexp.Regexp{}
	for kind, kids := range rowKids {
		var out strings.Builder
		for _, piece := range regexp.MustCompile(`[A-Z][a-z][A-Za-z]*|.`).FindAllString(kids, -1) {
			if len(piece) == 1 {
				piece = letter.Replace(piece)
			}
			out.WriteString(piece)
		}
		rows[kind] = [2]*regexp.Regexp{
			regexp.MustCompile(`\A(?:` + rowText[kind] + `)\z`),
			regexp.MustCompile(`\A(?:` + out.String() + `)\z`),
		}
	}
	return rows
}

// tag is what a row says of a Kid: its kind, and what the row around it asks.
func tag(n api.Node) string {
	name, ok := kindNames[n.Kind]
	bare := len(n.Kids) > 0 && n.Kids[0].Kind == api.NodeNone
	switch {
	case !ok:
		return "Nothing "
	case name == "Block" && len(n.Kids) == 0:
		return "Empty "
	case name == "Param" && len(n.Kids) == 0:
		return "ParamRest "
	case name == "Param" && !bare:
		return "ParamGiven "
	case name == "Except" && bare:
		return "ExceptAny "
	}
	return name + " "
}

// modelShape tells whether a tree is all of shapes.
func modelShape(n api.Node) bool {
	name, ok := kindNames[n.Kind]
	if !ok {
		return false
	}
	if name == "Int" {
		if n.Num.Neg || len(n.Num.Mag) > 256 || len(n.Num.Mag) > 0 && n.Num.Mag[len(n.Num.Mag)-1] == 0 {
			return false
		}
	} else if n.Num.Neg || len(n.Num.Mag) > 0 {
		return false
	}
	tags := ""
	for _, kid := range n.Kids {
		tags += tag(kid)
	}
	match := rowMatch[name]
	if !match[0].MatchString(n.Text) || !match[1].MatchString(tags) {
		return false
	}
	if rowText[name] == nameText && strings.Contains(wordList, " "+n.Text+" ") {
		return false
	}
	if name == "Except" && n.Text != "" && (strings.Contains(wordList, " "+n.Text+" ") || tag(n) == "ExceptAny ") {
		return false
	}
	if name == "Str" && !utf8.ValidString(n.Text) {
		return false
	}
	for _, kid := range n.Kids {
		if !modelShape(kid) {
			return false
		}
	}
	return true
}

func modelCheck(n api.Node) api.Errno {
	if n.Kind == 1 && modelShape(n) && modelDepth(n) <= 300 {
		return api.OK
	}
	return api.ErrShape
}

func modelDepth(n api.Node) int {
	deep := 0
	for _, kid := range n.Kids {
		deep = max(deep, modelDepth(kid))
	}
	return deep + 1
}

func modelSize(n api.Node) int {
	size := 1
	for _, kid := range n.Kids {
		size += modelSize(kid)
	}
	return size
}

// tell is all of a tree, its places too, in one line.
func tell(n api.Node) string {
	var out strings.Builder
	tellTo(&out, n)
	return out.String()
}

func tellTo(out *strings.Builder, n api.Node) {
	fmt.Fprintf(out, "%d@%d%q", n.Kind, n.At, n.Text)
	if n.Num.Neg || len(n.Num.Mag) > 0 {
		fmt.Fprint(out, n.Num)
	}
	for i, kid := range n.Kids {
		out.WriteString([]string{"(", " "}[min(i, 1)])
		tellTo(out, kid)
	}
	if len(n.Kids) > 0 {
		out.WriteString(")")
	}
}

// modelAll is what All tells, a text a node.
func modelAll(n api.Node, within int) []string {
	list := []string{fmt.Sprint(within, ": ", tell(n))}
	for _, kid := range n.Kids {
		list = append(list, modelAll(kid, within+1)...)
	}
	return list
}

// modelLines is the lines of a Block, without blanks ahead of its own.
func modelLines(block api.Node) (lines []string) {
	for _, n := range block.Kids {
		lines = append(lines, modelStatement(n)...)
	}
	return lines
}

func modelInner(head string, block api.Node) []string {
	lines := []string{head + ":"}
	for _, line := range modelLines(block) {
		lines = append(lines, " "+line)
	}
	return lines
}

func modelJoin(list []api.Node) string {
	var texts []string
	for _, n := range list {
		texts = append(texts, modelText(n))
	}
	return strings.Join(texts, ", ")
}

func modelStatement(n api.Node) []string {
	k := n.Kids
	name := strings.ToLower(kindNames[n.Kind])
	text := func(i int) string { return modelText(k[i]) }
	switch name {
	case "expr":
		return []string{text(0)}
	case "assign", "unpack":
		return []string{text(0) + " = " + text(1)}
	case "augment":
		return []string{text(0) + " " + n.Text + "= " + text(1)}
	case "del", "global", "nonlocal":
		return []string{name + " " + modelJoin(k)}
	case "pass", "break", "continue":
		return []string{name}
	case "return", "raise":
		return []string{strings.TrimSpace(name + " " + text(0))}
	case "if":
		lines := modelInner("if "+text(0), k[1])
		if k[2].Kind != 0 {
			lines = append(lines, modelInner("else", k[2])...)
		}
		return lines
	case "while":
		return modelInner("while "+text(0), k[1])
	case "for":
		return modelInner("for "+text(0)+" in "+text(1), k[2])
	case "def":
		return modelInner("def "+n.Text+"("+modelJoin(k[:len(k)-1])+")", k[len(k)-1])
	case "class":
		head := "class " + n.Text
		if k[0].Kind != 0 {
			head += "(" + text(0) + ")"
		}
		return modelInner(head, k[1])
	case "try":
		lines := modelInner("try", k[0])
		for _, x := range k[1:] {
			head := strings.TrimSpace("except " + modelText(x.Kids[0]))
			if x.Text != "" {
				head += " as " + x.Text
			}
			lines = append(lines, modelInner(head, x.Kids[1])...)
		}
		return lines
	}
	panic("no statement: " + name)
}

// modelForm is what a kind's text is, its Kids' texts being 0, 1, 2, all of
// them A, those behind the first one R, its Text N.
var modelForm = map[string]string{
	"None": ``, "Targets": `<A>`, "Name": `<N>`, "Const": `<N>`, "List": `[<A>]`, "Set": `{<A>}`, "Dict": `{<A>}`,
	"Tuple": `(<A>)`, "Pair": `<0>: <1>`, "Spread": `**<0>`, "Keyword": `<N>=<0>`, "Attr": `<0>.<N>`,
	"Index": `<0>[<1>]`, "Choose": `(<0> if <1> else <2>)`, "Or": `(<0> or <1>)`, "And": `(<0> and <1>)`,
	"Not": `(not <0>)`, "Negative": `(-<0>)`, "Compare": `(<0> <N> <1>)`, "Binary": `(<0> <N> <1>)`,
	"Call": `<0>(<R>)`, "ListComp": `[<0> for <1> in <2><F>]`, "SetComp": `{<0> for <1> in <2><F>}`,
	"DictComp": `{<0> for <1> in <2><F>}`,
}

var formMark = regexp.MustCompile(`<.>`)

func modelText(n api.Node) string {
	k := n.Kids
	kind := kindNames[n.Kind]
	form, ok := modelForm[kind]
	switch {
	case kind == "Int":
		return digits(n.Num)
	case kind == "Str":
		return letters.Quote(n.Text)
	case kind == "Tuple" && len(k) == 1:
		form = `(<0>,)`
	case kind == "Attr" && k[0].Kind == 32:
		form = `(<0>).<N>`
	case kind == "Param" && len(k) == 0:
		form, ok = `**<N>`, true
	case kind == "Param" && k[0].Kind == 0:
		form, ok = `<N>`, true
	case kind == "Param":
		form, ok = `<N>=<0>`, true
	}
	if !ok {
		panic("no text of " + kind)
	}
	return formMark.ReplaceAllStringFunc(form, func(mark string) string {
		switch mark[1] {
		case 'N':
			return n.Text
		case 'A':
			return modelJoin(k)
		case 'R':
			return modelJoin(k[1:])
		case 'F':
			s := ""
			for _, kid := range k[3:] {
				s += " if " + modelText(kid)
			}
			return s
		}
		return modelText(k[mark[1]-'0'])
	})
}

func modelPrint(n api.Node) string {
	if modelCheck(n) != api.OK {
		return ""
	}
	s := ""
	for _, line := range modelLines(n.Kids[0]) {
		s += line + "\n"
	}
	return s
}

// gardener grows trees by chance.
type gardener struct{ *rand.Rand }

func (g gardener) pick(list string) string {
	words := strings.Fields(list)
	return words[g.Intn(len(words))]
}

func (g gardener) name() string { return g.pick("a b c x y _ __eq__ None1 iff A_9 self print") }

func (g gardener) node(kind, text string, kids ...api.Node) api.Node {
	return api.Node{Kind: kindOf(kind), At: g.Intn(200) - 50, Text: text, Kids: kids}
}

func (g gardener) list(least, most int, make func() api.Node) (list []api.Node) {
	for range least + g.Intn(most-least+1) {
		list = append(list, make())
	}
	return list
}

func (g gardener) orNone(make func() api.Node) api.Node {
	if g.Intn(3) == 0 {
		return g.node("None", "")
	}
	return make()
}

func (g gardener) expr(deep int) api.Node {
	e := func() api.Node { return g.expr(deep - 1) }
	kind := g.pick("Name Int Str Const")
	if deep > 0 && g.Intn(5) > 0 {
		kind = g.pick("Tuple List Set Dict ListComp SetComp DictComp Choose Or And Not Compare Binary Negative Call Attr Index")
	}
	pair := func() api.Node { return g.node("Pair", "", e(), e()) }
	switch kind {
	case "Name":
		return g.node(kind, g.name())
	case "Int":
		n := g.node(kind, "")
		n.Num = number(g.pick("0 1 7 4294967295 4294967296 18446744073709551616 99999999999999999999999999"))
		return n
	case "Str":
		return g.node(kind, []string{"", "a", "it's", "\n\t\x00", "\u00f1\u2028", "(", "\\"}[g.Intn(7)])
	case "Const":
		return g.node(kind, g.pick("None True False"))
	case "Tuple", "List":
		return g.node(kind, "", g.list(0, 3, e)...)
	case "Set":
		return g.node(kind, "", g.list(1, 3, e)...)
	case "Dict":
		return g.node(kind, "", g.list(0, 3, func() api.Node {
			if g.Intn(3) == 0 {
				return g.node("Spread", "", e())
			}
			return pair()
		})...)
	case "ListComp", "SetComp":
		return g.node(kind, "", append([]api.Node{e(), g.targets(deep - 1), e()}, g.list(0, 2, e)...)...)
	case "DictComp":
		return g.node(kind, "", append([]api.Node{pair(), g.targets(deep - 1), e()}, g.list(0, 2, e)...)...)
	case "Choose":
		return g.node(kind, "", e(), e(), e())
	case "Or", "And", "Index":
		return g.node(kind, "", e(), e())
	case "Not", "Negative":
		return g.node(kind, "", e())
	case "Compare":
		return g.node(kind, strings.ReplaceAll(g.pick("== != < <= > >= in not_in is is_not"), "_", " "), e(), e())
	case "Binary":
		return g.node(kind, g.pick("+ - * // % & | ^"), e(), e())
	case "Attr":
		return g.node(kind, g.name(), e())
	}
	kids := append([]api.Node{e()}, g.list(0, 2, e)...)
	kids = append(kids, g.list(0, 2, func() api.Node { return g.node("Keyword", g.name(), e()) })...)
	kids = append(kids, g.list(0, 1, func() api.Node { return g.node("Spread", "", e()) })...)
	return g.node("Call", "", kids...)
}

func (g gardener) target(deep int) api.Node {
	if deep <= 0 {
		return g.node("Name", g.name())
	}
	switch g.Intn(3) {
	case 0:
		return g.node("Attr", g.name(), g.expr(deep-1))
	case 1:
		return g.node("Index", "", g.expr(deep-1), g.expr(deep-1))
	}
	return g.node("Name", g.name())
}

func (g gardener) targetList(deep int) api.Node {
	return g.node("Targets", "", g.list(2, 4, func() api.Node { return g.target(deep) })...)
}

func (g gardener) targets(deep int) api.Node {
	if g.Intn(2) == 0 {
		return g.targetList(deep)
	}
	return g.target(deep)
}

func (g gardener) block(deep int) api.Node {
	return g.node("Block", "", g.list(1, 3, func() api.Node { return g.statement(deep) })...)
}

func (g gardener) statement(deep int) api.Node {
	e := func() api.Node { return g.expr(2) }
	b := func() api.Node { return g.block(deep - 1) }
	kind := g.pick("Expr Assign Unpack Augment Del Pass Break Continue Return Raise Global Nonlocal")
	if deep > 0 && g.Intn(2) == 0 {
		kind = g.pick("If While For Def Class Try")
	}
	switch kind {
	case "Expr":
		return g.node(kind, "", e())
	case "Assign":
		return g.node(kind, "", g.target(2), e())
	case "Unpack":
		return g.node(kind, "", g.targetList(2), e())
	case "Augment":
		return g.node(kind, g.pick("+ - * // % & | ^"), g.target(2), e())
	case "Del":
		return g.node(kind, "", g.target(2))
	case "Return", "Raise":
		return g.node(kind, "", g.orNone(e))
	case "Global", "Nonlocal":
		return g.node(kind, "", g.list(1, 3, func() api.Node { return g.node("Name", g.name()) })...)
	case "If":
		return g.node(kind, "", e(), b(), g.orNone(b))
	case "While":
		return g.node(kind, "", e(), b())
	case "For":
		return g.node(kind, "", g.targets(2), e(), b())
	case "Def":
		kids := g.list(0, 2, func() api.Node { return g.node("Param", g.name(), g.node("None", "")) })
		kids = append(kids, g.list(0, 2, func() api.Node { return g.node("Param", g.name(), e()) })...)
		kids = append(kids, g.list(0, 1, func() api.Node { return g.node("Param", g.name()) })...)
		return g.node(kind, g.name(), append(kids, b())...)
	case "Class":
		return g.node(kind, g.name(), g.orNone(e), b())
	case "Try":
		kids := append([]api.Node{b()}, g.list(1, 3, func() api.Node {
			return g.node("Except", []string{"", g.name()}[g.Intn(2)], e(), b())
		})...)
		if g.Intn(2) == 0 {
			kids = append(kids, g.node("Except", "", g.node("None", ""), b()))
		}
		return g.node(kind, "", kids...)
	}
	return g.node(kind, "")
}

func (g gardener) module() api.Node {
	return g.node("Module", "", g.node("Block", "", g.list(0, 4, func() api.Node { return g.statement(3) })...))
}

package lexer_test

import (
	"math/rand"
	"regexp"
	"slices"
	"strings"
	"testing"

	"lexicon/api"
	"lexicon/letters"
	"lexicon/lexer"
)

// words and signs are the chapter's lists.
const (
	words = "and as break class continue def del elif else except False for global if in is None nonlocal not or pass raise return True try while"
	signs = "( ) [ ] { } , : . = == != < <= > >= + += - -= * *= ** // //= % %= & &= | |= ^ ^="
)

var (
	partsHere  = regexp.MustCompile(`^[A-Za-z0-9_]+`)
	goodNumber = regexp.MustCompile(`^(0|[1-9][0-9]*)$`)
	idleLine   = regexp.MustCompile(`^ *(#.*)?$`)
)

// model reads a source line by line, word by word as the chapter says it.
type model struct {
	list   []api.Token
	fault  api.Fault
	depths []int
	open   int
}

func modelTokens(src string) ([]api.Token, api.Fault) {
	if len(src) > api.MaxSource {
		return nil, api.Fault{Code: api.FaultLong, At: api.MaxSource}
	}
	m := &model{depths: []int{0}}
	at := 0
	for _, line := range strings.SplitAfter(src, "\n") {
		m.line(line, at)
		if m.fault.Code != 0 {
			return nil, m.fault
		}
		at += len(line)
	}
	if n := len(m.list); n > 0 {
		if k := m.list[n-1].Kind; k != api.TokenNewline && k != api.TokenIndent && k != api.TokenDedent {
			m.put(api.TokenNewline, "", at)
		}
	}
	for range m.depths[1:] {
		m.put(api.TokenDedent, "", at)
	}
	m.put(api.TokenEnd, "", at)
	return m.list, api.Fault{}
}

func (m *model) put(kind int, text string, at int) {
	m.list = append(m.list, api.Token{Kind: kind, Text: text, At: at})
}

func (m *model) stop(code, at int) {
	m.fault = api.Fault{Code: code, At: at}
}

// line reads a line that begins at a byte.
func (m *model) line(line string, at int) {
	body, ends := strings.CutSuffix(line, "\n")
	if m.open == 0 {
		if idleLine.MatchString(strings.ToValidUTF8(body, "?")) {
			return
		}
		blanks := len(body) - len(strings.TrimLeft(body, " "))
		m.blocks(blanks, at+blanks)
	}
	for i := 0; i < len(body) && body[i] != '#' && m.fault.Code == 0; {
		if body[i] == ' ' {
			i++
			continue
		}
		i += m.token(body[i:], at+i)
	}
	if ends && m.open == 0 {
		m.put(api.TokenNewline, "", at+len(body))
	}
}

func (m *model) blocks(n, at int) {
	last := func() int { return m.depths[len(m.depths)-1] }
	if n > last() {
		if len(m.depths) == 1+api.MaxIndent {
			m.stop(api.FaultDeep, at)
			return
		}
		m.put(api.TokenIndent, "", at)
		m.depths = append(m.depths, n)
		return
	}
	for n < last() {
		m.put(api.TokenDedent, "", at)
		m.depths = m.depths[:len(m.depths)-1]
	}
	if n != last() {
		m.stop(api.FaultIndent, at)
	}
}

// token reads what begins with rest, which has no blank ahead; it tells its bytes.
func (m *model) token(rest string, at int) int {
	if m.fault.Code != 0 {
		return 1
	}
	if rest[0] == '\'' || rest[0] == '"' {
		said, n, e := letters.Unquote(rest)
		if e != api.OK {
			m.stop(api.FaultStr, at)
			return 1
		}
		m.put(api.TokenStr, said, at)
		return n
	}
	text, kind := partsHere.FindString(rest), api.TokenName
	switch {
	case text != "" && '0' <= text[0] && text[0] <= '9':
		kind = api.TokenInt
		if !goodNumber.MatchString(text) || len(text) > api.MaxDigits {
			m.stop(api.FaultNumber, at)
		}
	case text != "" && slices.Contains(strings.Fields(words), text):
		kind = api.TokenWord
	case text == "":
		text, kind = m.sign(rest, at), api.TokenSign
	}
	m.put(kind, text, at)
	return max(1, len(text))
}

func (m *model) sign(rest string, at int) string {
	longest := ""
	for _, s := range strings.Fields(signs) {
		if strings.HasPrefix(rest, s) && len(s) > len(longest) {
			longest = s
		}
	}
	switch {
	case longest == "":
		m.stop(api.FaultByte, at)
	case strings.Contains("([{", longest):
		if m.open == api.MaxNest {
			m.stop(api.FaultDeep, at)
		}
		m.open++
	case strings.Contains(")]}", longest):
		m.open = max(0, m.open-1)
	}
	return longest
}

// agree holds a source against the model.
func agree(t *testing.T, src string) {
	t.Helper()
	given := []byte(src)
	got, fault := lexer.Tokens(given)
	want, wantFault := modelTokens(src)
	if fault != wantFault || !slices.Equal(got, want) {
		t.Fatalf("%q:\n got %s\nwant %s", src, tell(got, fault), tell(want, wantFault))
	}
	if string(given) != src {
		t.Fatalf("P13.9: %q was changed to %q", src, given)
	}
	if fault.Code == 0 {
		orderly(t, src, got)
	}
}

// orderly is P13.7.
func orderly(t *testing.T, src string, list []api.Token) {
	t.Helper()
	level, before := 0, -1
	for i, token := range list {
		loose := false
		switch token.Kind {
		case api.TokenIndent:
			level, loose = level+1, true
		case api.TokenDedent:
			level, loose = level-1, true
		case api.TokenNewline:
			loose = true
		case api.TokenEnd:
			loose = true
			if i != len(list)-1 {
				t.Fatalf("P13.7: %q: an End ahead of the last token", src)
			}
		}
		// An Indent and the token of its line share a place.
		if i > 0 && (list[i-1].Kind == api.TokenIndent || list[i-1].Kind == api.TokenDedent) {
			loose = true
		}
		if token.At < before || !loose && token.At == before || token.At > len(src) {
			t.Fatalf("P13.7: %q: token %d at %d, behind %d", src, i, token.At, before)
		}
		if loose && token.Kind >= api.TokenNewline && token.Text != "" {
			t.Fatalf("P13.6: %q: token %d has a Text", src, i)
		}
		if level < 0 {
			t.Fatalf("P13.7: %q: a Dedent of no block", src)
		}
		before = token.At
	}
	if level != 0 {
		t.Fatalf("P13.7: %q: %d Indents more than Dedents", src, level)
	}
	if len(list) == 0 || list[len(list)-1] != (api.Token{Kind: api.TokenEnd, At: len(src)}) {
		t.Fatalf("P13.7: %q: the last token is not the End", src)
	}
}

// TestAllShortSources holds every short source of a few bytes against the model.
func TestAllShortSources(t *testing.T) {
	for _, x := range []struct {
		bytes string
		most  int
	}{
		{"a \n()#", 6},
		{"a \n0!\t", 5},
		{"=*/!<+", 5},
		{"'\"\\n\n #", 5},
		{"01_a ", 5},
		{"([{)]}\n ", 4},
		{"\x00\r\x7f\x80\xc3\xa9'#a\n", 4},
	} {
		var all func(src string)
		all = func(src string) {
			agree(t, src)
			if len(src) == x.most {
				return
			}
			for i := range len(x.bytes) {
				all(src + x.bytes[i:i+1])
			}
		}
		all("")
	}
}

// pieces is what random sources are made of.
func pieces() []string {
	list := append(strings.Fields(words), strings.Fields(signs)...)
	for range 6 {
		list = append(list, "\n", "\n ", "\n  ", "\n    ", " ", "a", "_x9", "7", "120", "'s'", `"\n\x41"`, "# remark", "(", ")", "\n\n", ":\n")
	}
	return append(list, "ifs", "0", "00", "1a", "'", "\"it's\"", "!", "/", "\t", "\r", "\xff", "\u00e9", "'\u00e9'", "\\", "$", "# '(\xff", "\n#", "\n   #\n")
}

func TestGames(t *testing.T) {
	list := pieces()
	good := list[:len(list)-18]
	for seed := range 20000 {
		r := rand.New(rand.NewSource(int64(seed)))
		from := good
		if r.Intn(4) == 0 {
			from = list
		}
		var src strings.Builder
		for range r.Intn(40) {
			src.WriteString(from[r.Intn(len(from))])
			if r.Intn(3) == 0 {
				src.WriteString(strings.Repeat(" ", r.Intn(3)))
			}
		}
		agree(t, src.String())
	}
}

// TestBlockGames plays lines of random depths: whole blocks, several at once, depths that fit none.
func TestBlockGames(t *testing.T) {
	for seed := range 3000 {
		r := rand.New(rand.NewSource(int64(seed)))
		depths := []int{0}
		var src strings.Builder
		for range r.Intn(120) {
			switch r.Intn(10) {
			case 0, 1, 2, 3:
				depths = append(depths, depths[len(depths)-1]+1+r.Intn(3))
			case 4, 5:
				depths = depths[:1+r.Intn(len(depths))]
			case 6:
				src.WriteString(strings.Repeat(" ", r.Intn(9)) + []string{"", "# x", "#"}[r.Intn(3)] + "\n")
			case 7:
				src.WriteString(strings.Repeat(" ", depths[len(depths)-1]) + "(\n  )\n")
			}
			n := depths[len(depths)-1]
			if r.Intn(100) == 0 {
				n = r.Intn(n + 3)
			}
			src.WriteString(strings.Repeat(" ", n) + "a" + "\n")
		}
		agree(t, src.String())
	}
}

// TestRandomBytes has sources of any bytes.
func TestRandomBytes(t *testing.T) {
	for seed := range 5000 {
		r := rand.New(rand.NewSource(int64(seed)))
		src := make([]byte, r.Intn(30))
		for i := range src {
			src[i] = byte(r.Intn(256))
			if r.Intn(2) == 0 {
				src[i] = " \nab01()'\"#=*"[r.Intn(13)]
			}
		}
		agree(t, string(src))
	}
}

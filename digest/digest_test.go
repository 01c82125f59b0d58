package digest_test

import (
	"hash/fnv"
	"math"
	"math/big"
	"math/rand"
	"slices"
	"strings"
	"testing"

	"lexicon/api"
	"lexicon/digest"
)

const top = math.MaxUint32

// minusOneText is a text whose word, reckoned to its end, is 2^64 - 1.
const minusOneText = "eszy\x06\x04\x0b\x05\x07\x13\x0b\x06\x04\x08\x09\x0c\x7a\x0b"

// words is an Int above 0 (or 0), as it is written: in its form or not.
func words(w ...uint32) api.Int { return api.Int{Mag: w} }

// minus is the same, Neg.
func minus(w ...uint32) api.Int { return api.Int{Neg: true, Mag: w} }

func fromBig(b *big.Int) api.Int {
	x := api.Int{Neg: b.Sign() < 0}
	size := new(big.Int).Abs(b)
	for size.Sign() > 0 {
		x.Mag = append(x.Mag, uint32(size.Uint64()))
		size.Rsh(size, 32)
	}
	return x
}

func toBig(x api.Int) *big.Int {
	b := new(big.Int)
	for _, w := range slices.Backward(x.Mag) {
		b.Lsh(b, 32).Or(b, new(big.Int).SetUint64(uint64(w)))
	}
	if x.Neg {
		b.Neg(b)
	}
	return b
}

// power is a power of base, and more.
func power(base, exponent, more int64) *big.Int {
	b := new(big.Int).Exp(big.NewInt(base), big.NewInt(exponent), nil)
	return b.Add(b, big.NewInt(more))
}

// number is a big.Int of decimal digits.
func number(t *testing.T, s string) *big.Int {
	t.Helper()
	b, ok := new(big.Int).SetString(s, 10)
	if !ok {
		t.Fatalf("no number: %s", s)
	}
	return b
}

func upTo(n int) []int {
	row := make([]int, n)
	for i := range row {
		row[i] = i
	}
	return row
}

// randomInt is an int of any length, edges among them.
func randomInt(r *rand.Rand) int {
	some := []int{0, 1, -1, -2, math.MaxInt, math.MinInt, api.Mersenne, -api.Mersenne}
	switch r.Intn(3) {
	case 0:
		return some[r.Intn(len(some))]
	case 1:
		return r.Intn(200) - 100
	}
	return int(r.Uint64() >> r.Intn(64))
}

func randomInts(r *rand.Rand, n int) []int {
	row := make([]int, r.Intn(n+1))
	for i := range row {
		row[i] = randomInt(r)
	}
	return row
}

// modulus is 2^64: what words are reckoned by.
func modulus() *big.Int { return new(big.Int).Lsh(big.NewInt(1), 64) }

// wrapped is b modulo 2^64.
func wrapped(b *big.Int) *big.Int { return new(big.Int).Mod(b, modulus()) }

func word(v int) *big.Int { return wrapped(big.NewInt(int64(v))) }

func plus(a, b *big.Int) *big.Int { return wrapped(new(big.Int).Add(a, b)) }

func times(a, b *big.Int) *big.Int { return wrapped(new(big.Int).Mul(a, b)) }

func or(a, b *big.Int) *big.Int { return new(big.Int).Xor(a, b) }

func left(a *big.Int, n uint) *big.Int { return wrapped(new(big.Int).Lsh(a, n)) }

func right(a *big.Int, n uint) *big.Int { return new(big.Int).Rsh(a, n) }

// asInt is a word with the sign of its highest digit, and stand where that is -1.
func asInt(a *big.Int, stand int) int {
	if a.Bit(63) == 1 {
		a = new(big.Int).Sub(a, modulus())
	}
	if a.Cmp(big.NewInt(-1)) == 0 {
		return stand
	}
	return int(a.Int64())
}

// tupleByBig is Tuple as the chapter says it, in numbers of any size.
func tupleByBig(t *testing.T, parts []int) int {
	begin := number(t, "2870177450012600261")
	sum := begin
	for _, p := range parts {
		sum = plus(sum, times(word(p), number(t, "14029467366897019727")))
		sum = or(left(sum, 31), right(sum, 33))
		sum = times(sum, number(t, "11400714785074694791"))
	}
	end := or(or(word(len(parts)), begin), number(t, "3527539"))
	return asInt(plus(sum, end), 1546275796)
}

// frozenByBig is Frozen likewise.
func frozenByBig(t *testing.T, parts []int) int {
	sum := new(big.Int)
	for _, p := range parts {
		mixed := or(or(word(p), number(t, "89869747")), left(word(p), 16))
		sum = or(sum, times(mixed, number(t, "3644798167")))
	}
	sum = or(sum, times(word(len(parts)+1), number(t, "1927868237")))
	sum = or(sum, or(right(sum, 11), right(sum, 25)))
	sum = plus(times(sum, number(t, "69069")), number(t, "907133923"))
	return asInt(sum, 590923713)
}

func TestP3_1Whole(t *testing.T) {
	rows := []struct {
		x    *big.Int
		want int
	}{
		{power(2, 0, -1), 0},
		{power(2, 0, 0), 1},
		{power(2, 0, -2), -2}, // -1
		{power(2, 0, -3), -2}, // -2
		{power(2, 0, -4), -3},
		{power(2, 61, -2), api.Mersenne - 1},
		{power(2, 61, -1), 0},
		{power(2, 61, 0), 1},
		{power(2, 61, 4), 5},
		{power(2, 62, -3), api.Mersenne - 1},
		{power(2, 62, -2), 0},
		{power(2, 63, -1), 3},
		{power(2, 63, 0), 4},
		{power(2, 64, -1), 7},
		{power(2, 64, 0), 8},
		{power(2, 100, 0), 549755813888},
		{power(2, 122, 0), 1},
		{power(10, 40, 0), 1388497483929617590},
		{power(2, 8192, -1), 262143},
		{power(2, 9000, 17), 8589934609}, // long
		{power(3, 5000, 0), 1993180350957201350},
	}
	for _, row := range rows {
		if got := digest.Whole(fromBig(row.x)); got != row.want {
			t.Errorf("Whole(%v): got %d, want %d", row.x, got, row.want)
		}
		if row.x.Sign() <= 0 || row.want == 1 {
			continue
		}
		if got := digest.Whole(fromBig(new(big.Int).Neg(row.x))); got != -row.want {
			t.Errorf("Whole(-%v): got %d, want %d", row.x, got, -row.want)
		}
	}
}

func TestP3_1MinusOneIsNoHash(t *testing.T) {
	for _, size := range []*big.Int{
		power(2, 0, 0), power(2, 61, 0), power(2, 62, -1), power(2, 122, 0), power(2, 61*200, 0),
	} {
		if got := digest.Whole(fromBig(size)); got != 1 {
			t.Errorf("Whole(%v): got %d, want 1", size, got)
		}
		if got := digest.Whole(fromBig(new(big.Int).Neg(size))); got != -2 {
			t.Errorf("Whole(-%v): got %d, want -2", size, got)
		}
	}
}

func TestP3_1AgainstMathBig(t *testing.T) {
	r := rand.New(rand.NewSource(31))
	m := big.NewInt(api.Mersenne)
	for range 3000 {
		mag := make([]uint32, r.Intn(9))
		if r.Intn(50) == 0 {
			mag = make([]uint32, r.Intn(2*api.MaxLimbs))
		}
		for i := range mag {
			mag[i] = []uint32{r.Uint32(), 0, 1, top, 1 << 29, 1<<29 - 1}[r.Intn(6)]
		}
		x := api.Int{Neg: r.Intn(2) == 0, Mag: mag}
		want := int(new(big.Int).Rem(toBig(x), m).Int64()) // Rem has x's sign
		if want == -1 {
			want = -2
		}
		if got := digest.Whole(x); got != want {
			t.Errorf("Whole(%v): got %d, want %d", x, got, want)
		}
	}
}

func TestP3_2Text(t *testing.T) {
	rows := []struct {
		s    string
		want int
	}{
		{"", -3750763034362895579},
		{"a", -5808556873153909620},
		{"\x00", -5808590958014384161}, // a byte 0 counts
	}
	for _, row := range rows {
		if got := digest.Text(row.s); got != row.want {
			t.Errorf("Text(%q): got %d, want %d", row.s, got, row.want)
		}
	}
}

func TestP3_2AgainstFnv(t *testing.T) {
	r := rand.New(rand.NewSource(32))
	texts := []string{"foobar", "\u00e9\u20ac\U0001f600", "\xff\xfe\x80", "\n\t'\\", strings.Repeat("ab", api.MaxText)}
	for b := range 256 {
		texts = append(texts, string([]byte{byte(b)}))
	}
	for range 2000 {
		row := make([]byte, r.Intn(40))
		for i := range row {
			row[i] = byte(r.Intn(256))
		}
		texts = append(texts, string(row))
	}
	for _, s := range texts {
		h := fnv.New64a()
		h.Write([]byte(s))
		if got := digest.Text(s); got != int(h.Sum64()) {
			t.Errorf("Text(%.40q): got %d, want %d", s, got, int(h.Sum64()))
		}
	}
}

func TestP3_2MinusOneIsNoHash(t *testing.T) {
	h := fnv.New64a()
	h.Write([]byte(minusOneText))
	if h.Sum64() != math.MaxUint64 {
		t.Fatalf("the text's word is %d, not 2^64 - 1", h.Sum64())
	}
	if got := digest.Text(minusOneText); got != -2 {
		t.Errorf("Text(%q): got %d, want -2", minusOneText, got)
	}
}

func TestP3_3Tuple(t *testing.T) {
	rows := []struct {
		parts []int
		want  int
	}{
		{nil, 5740354900026072187},
		{[]int{}, 5740354900026072187},
		{[]int{0}, -8753497827991233192},
		{[]int{1}, -6644214454873602895},
		{[]int{-2}, 8078679518589016365},
		{[]int{1, 2}, -3550055125485641917},
		{[]int{2, 1}, 6794810172467074373},
		{[]int{1, 2, 3}, 529344067295497451},
		{[]int{0, 0}, -8458139203682520985},
		{[]int{5, 5, 5}, 4299663944376826947},
		{[]int{api.Mersenne - 1, 1 - api.Mersenne}, -7297791831364257745},
		{upTo(100), 4479737025582696436},
	}
	for _, row := range rows {
		if got := digest.Tuple(row.parts); got != row.want {
			t.Errorf("Tuple(%v): got %d, want %d", row.parts, got, row.want)
		}
	}
}

func TestP3_3AgainstMathBig(t *testing.T) {
	r := rand.New(rand.NewSource(33))
	rows := [][]int{{-1}, {-1, -1}, {math.MaxInt}, {math.MinInt}, upTo(1000)}
	for range 1000 {
		rows = append(rows, randomInts(r, 8))
	}
	for _, parts := range rows {
		if got, want := digest.Tuple(parts), tupleByBig(t, parts); got != want {
			t.Errorf("Tuple(%v): got %d, want %d", parts, got, want)
		}
	}
}

func TestP3_3MinusOneIsNoHash(t *testing.T) {
	// The last part of each row was reckoned backwards from 2^64 - 1.
	for _, parts := range [][]int{
		{-8496733470247235670}, {7, -9018845614780028873}, {-1, 0, 8530338824382977956},
	} {
		if got := digest.Tuple(parts); got != 1546275796 {
			t.Errorf("Tuple(%v): got %d, want 1546275796", parts, got)
		}
	}
}

func TestP3_4Frozen(t *testing.T) {
	rows := []struct {
		parts []int
		want  int
	}{
		{nil, 133146708735736},
		{[]int{}, 133146708735736},
		{[]int{0}, -2704248722033767810},
		{[]int{1}, -558064481276695278},
		{[]int{-2}, 6776983852052281967},
		{[]int{1, 2}, -1826646154956904602},
		{[]int{2, 1}, -1826646154956904602},
		{[]int{1, 2, 3}, -272375401224217160},
		{[]int{api.Mersenne - 1, 1 - api.Mersenne}, 5197505200615787739},
		{upTo(100), 4411996150312757951},
	}
	for _, row := range rows {
		if got := digest.Frozen(row.parts); got != row.want {
			t.Errorf("Frozen(%v): got %d, want %d", row.parts, got, row.want)
		}
	}
}

func TestP3_4AgainstMathBig(t *testing.T) {
	r := rand.New(rand.NewSource(34))
	// Twice one part leaves nothing of it, but how many there are is told.
	rows := [][]int{{-1}, {-1, -1}, {3, 3}, {3, 3, 3}, {math.MaxInt}, {math.MinInt}, upTo(1000)}
	for range 1000 {
		rows = append(rows, randomInts(r, 8))
	}
	for _, parts := range rows {
		if got, want := digest.Frozen(parts), frozenByBig(t, parts); got != want {
			t.Errorf("Frozen(%v): got %d, want %d", parts, got, want)
		}
	}
}

func TestP3_4MinusOneIsNoHash(t *testing.T) {
	for _, parts := range [][]int{
		{-2152790587108803315}, {7, -7508122167550910906}, {-884246020697231048, -1, 0},
	} {
		if got := digest.Frozen(parts); got != 590923713 {
			t.Errorf("Frozen(%v): got %d, want 590923713", parts, got)
		}
	}
}

func TestP3_5Number(t *testing.T) {
	rows := []struct{ n, want int }{
		{0, 0},
		{1, 1 << 60},
		{7, 7 << 60},
		{8, math.MinInt},
		{15, -1 << 60},
		{16, 1},
		{17, 1<<60 + 1},
		{32, 2},
		{api.MaxNumber, -1<<60 + 1<<27 - 1},
		{math.MaxInt, -1 ^ 1<<59},
		{math.MinInt, 1 << 59},
		{-16, 1<<60 - 1},
		{-2, -1 ^ 1<<60},
		{-17, -2}, // its own, not in the place of -1
		{-1, -2},
	}
	for _, row := range rows {
		if got := digest.Number(row.n); got != row.want {
			t.Errorf("Number(%d): got %d, want %d", row.n, got, row.want)
		}
	}
}

func TestP3_6WholeOfSmallNumbers(t *testing.T) {
	r := rand.New(rand.NewSource(36))
	small := []int{0, 1, -2, 2, api.Mersenne - 1, 1 - api.Mersenne}
	for range 1000 {
		small = append(small, r.Intn(api.Mersenne), -2-r.Intn(api.Mersenne-2))
	}
	for _, v := range small {
		if got := digest.Whole(fromBig(big.NewInt(int64(v)))); got != v {
			t.Errorf("Whole(%d): got %d", v, got)
		}
	}
}

func TestP3_6WholeHangsOnTheValueAlone(t *testing.T) {
	rows := [][]api.Int{
		{words(), words(0), words(0, 0, 0), minus(), minus(0), minus(0, 0)},
		{words(5), words(5, 0), words(5, 0, 0, 0)},
		{minus(1), minus(1, 0), minus(1, 0, 0)},
		{words(top, 1<<29-1), words(top, 1<<29-1, 0), words(), minus(top, 1<<29-1, 0)}, // Mersenne leaves 0
		{minus(7, 0, 3), minus(7, 0, 3, 0, 0)},
	}
	for _, row := range rows {
		for _, x := range row[1:] {
			if a, b := digest.Whole(row[0]), digest.Whole(x); a != b {
				t.Errorf("Whole(%v): %d, but Whole(%v): %d", row[0], a, x, b)
			}
		}
	}
}

func TestP3_6WholeOfMinusX(t *testing.T) {
	r := rand.New(rand.NewSource(37))
	for range 2000 {
		mag := make([]uint32, r.Intn(6))
		for i := range mag {
			mag[i] = r.Uint32() >> r.Intn(32)
		}
		a, b := digest.Whole(words(mag...)), digest.Whole(minus(mag...))
		if a == 1 {
			a = 2 // -2 stands for the other one's -1
		}
		if a != -b {
			t.Errorf("Whole of %v: %d, and of its negative: %d", mag, a, b)
		}
	}
}

func TestP3_6FrozenHasNoOrder(t *testing.T) {
	r := rand.New(rand.NewSource(38))
	for range 500 {
		parts := randomInts(r, 12)
		want := digest.Frozen(parts)
		for range 4 {
			r.Shuffle(len(parts), func(i, j int) { parts[i], parts[j] = parts[j], parts[i] })
			if got := digest.Frozen(parts); got != want {
				t.Errorf("Frozen(%v): got %d, want %d, as in another order", parts, got, want)
			}
		}
	}
}

func TestP3_6UnlikeNumbersHaveUnlikeHashes(t *testing.T) {
	seen := map[int]int{}
	check := func(n int) {
		h := digest.Number(n)
		if other, ok := seen[h]; ok && other != n {
			t.Errorf("Number(%d) and Number(%d): both %d", n, other, h)
		}
		seen[h] = n
	}
	for n := range 200000 {
		check(n)
		check(api.MaxNumber - n)
	}
	for bit := range 31 {
		for n := range 1000 {
			check(min(1<<bit+n, api.MaxNumber))
		}
	}
}

func TestP3_6NoHashIsMinusOne(t *testing.T) {
	for n := -100000; n <= 100000; n++ {
		x := fromBig(big.NewInt(int64(n)))
		if digest.Number(n) == -1 || digest.Whole(x) == -1 {
			t.Errorf("%d: Number %d, Whole %d", n, digest.Number(n), digest.Whole(x))
		}
	}
}

func TestP3_7NothingIsChanged(t *testing.T) {
	row := []uint32{9, 0, 7, 0, 0, 11, 12}
	digest.Whole(api.Int{Neg: true, Mag: row[:5]})
	if !slices.Equal(row, []uint32{9, 0, 7, 0, 0, 11, 12}) {
		t.Errorf("Whole changed its words, or the room behind them: %v", row)
	}
	calls := []func([]int) int{digest.Tuple, digest.Frozen}
	for i, call := range calls {
		parts := []int{3, -1, 2, 2, 77, 78}
		before := call(parts[:4])
		if !slices.Equal(parts, []int{3, -1, 2, 2, 77, 78}) {
			t.Errorf("call %d changed its parts, or the room behind them: %v", i, parts)
		}
		if again := call(parts[:4]); again != before {
			t.Errorf("call %d: %d, then %d", i, before, again)
		}
	}
}

func TestP3_7NothingIsKept(t *testing.T) {
	row := []uint32{5, 6, 7}
	parts := []int{1, 2, 3}
	digest.Whole(api.Int{Mag: row})
	digest.Tuple(parts)
	digest.Frozen(parts)
	row[0], parts[0] = 8, 9
	if got, want := digest.Whole(api.Int{Mag: row}), digest.Whole(words(8, 6, 7)); got != want {
		t.Errorf("Whole of what was changed since: got %d, want %d", got, want)
	}
	if got, want := digest.Tuple(parts), tupleByBig(t, []int{9, 2, 3}); got != want {
		t.Errorf("Tuple of what was changed since: got %d, want %d", got, want)
	}
	if got, want := digest.Frozen(parts), frozenByBig(t, []int{9, 2, 3}); got != want {
		t.Errorf("Frozen of what was changed since: got %d, want %d", got, want)
	}
}

func TestExamplesOfChapter3(t *testing.T) {
	rows := []struct {
		call      string
		got, want int
	}{
		{"Whole(5)", digest.Whole(words(5)), 5},
		{"Whole(-1)", digest.Whole(minus(1)), -2},
		{"Whole(-5)", digest.Whole(minus(5)), -5},
		{"Whole(2^61 - 1)", digest.Whole(words(top, 1<<29-1)), 0},
		{"Whole(2^61)", digest.Whole(words(0, 1<<29)), 1},
		{"Text(nothing)", digest.Text(""), -3750763034362895579},
		{"Text(`a`)", digest.Text("a"), -5808556873153909620},
		{"Tuple(none)", digest.Tuple(nil), 5740354900026072187},
		{"Tuple(1, 2)", digest.Tuple([]int{1, 2}), -3550055125485641917},
		{"Frozen(none)", digest.Frozen(nil), 133146708735736},
		{"Frozen(1, 2)", digest.Frozen([]int{1, 2}), -1826646154956904602},
		{"Frozen(2, 1)", digest.Frozen([]int{2, 1}), -1826646154956904602},
		{"Number(0)", digest.Number(0), 0},
		{"Number(1)", digest.Number(1), 1152921504606846976},
		{"Number(16)", digest.Number(16), 1},
	}
	for _, row := range rows {
		if row.got != row.want {
			t.Errorf("%s: got %d, want %d", row.call, row.got, row.want)
		}
	}
}

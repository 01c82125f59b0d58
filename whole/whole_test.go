package whole_test

import (
	"fmt"
	"math"
	"math/big"
	"math/rand"
	"slices"
	"strings"
	"testing"

	"lexicon/api"
	"lexicon/whole"
)

const top = math.MaxUint32

// words is an Int above 0 (or 0), as it is written: in its form or not.
func words(w ...uint32) api.Int { return api.Int{Mag: w} }

// minus is the same, Neg.
func minus(w ...uint32) api.Int { return api.Int{Neg: true, Mag: w} }

// power is 2^(32 n): an Int of n+1 words.
func power(n int) api.Int {
	mag := make([]uint32, n+1)
	mag[n] = 1
	return api.Int{Mag: mag}
}

// greatest is the greatest Int that is not long.
func greatest() api.Int {
	return api.Int{Mag: slices.Repeat([]uint32{top}, api.MaxLimbs)}
}

// longs are Ints that are long.
func longs() []api.Int {
	great := power(api.MaxLimbs)
	below := power(api.MaxLimbs)
	below.Neg = true
	loose := power(api.MaxLimbs + 40)
	loose.Mag = append(loose.Mag, 0, 0)
	return []api.Int{great, below, loose}
}

func toBig(x api.Int) *big.Int {
	b := new(big.Int)
	for _, w := range slices.Backward(x.Mag) {
		b.Lsh(b, 32).Or(b, new(big.Int).SetUint64(uint64(w)))
	}
	if x.Neg {
		b.Neg(b)
	}
	return b
}

func fromBig(b *big.Int) api.Int {
	x := api.Int{Neg: b.Sign() < 0}
	size := new(big.Int).Abs(b)
	for size.Sign() > 0 {
		x.Mag = append(x.Mag, uint32(size.Uint64()))
		size.Rsh(size, 32)
	}
	return x
}

// number is an Int in its form, of decimal digits.
func number(t *testing.T, s string) api.Int {
	t.Helper()
	b, ok := new(big.Int).SetString(s, 10)
	if !ok {
		t.Fatalf("no number: %s", s)
	}
	return fromBig(b)
}

// same holds two Ints word by word: both must be in one form.
func same(a, b api.Int) bool { return a.Neg == b.Neg && slices.Equal(a.Mag, b.Mag) }

func isZero(x api.Int) bool { return !x.Neg && len(x.Mag) == 0 }

// want checks an Int against what it must be, form and all.
func want(t *testing.T, what string, got, wanted api.Int) {
	t.Helper()
	if !same(got, wanted) {
		t.Errorf("%s: got %v, want %v", what, got, wanted)
	}
}

// refused checks that a call answered e, and an Int of zero beside it.
func refused(t *testing.T, what string, got api.Int, e, wanted api.Errno) {
	t.Helper()
	if e != wanted || !isZero(got) {
		t.Errorf("%s: got %v, error %d, want error %d", what, got, int(e), int(wanted))
	}
}

// random is an Int of up to n words, in its form or not, with words that carry often.
func random(r *rand.Rand, n int) api.Int {
	mag := make([]uint32, r.Intn(n+1))
	for i := range mag {
		mag[i] = []uint32{r.Uint32(), 0, 1, top, 1 << 31, 1<<31 - 1}[r.Intn(6)]
	}
	return api.Int{Neg: r.Intn(2) == 0, Mag: mag}
}

var someInts = []int{
	0, 1, -1, 2, -2, 7, -7, 1<<31 - 1, -1 << 31, 1<<32 - 1, -(1<<32 - 1), 1 << 32, -1 << 32,
	1<<32 + 1, 1 << 62, -1 << 62, 1<<62 + 1, math.MaxInt - 1, math.MaxInt, math.MinInt + 1, math.MinInt,
}

func TestP1_1OfIsInItsForm(t *testing.T) {
	for _, v := range someInts {
		want(t, fmt.Sprintf("Of(%d)", v), whole.Of(v), fromBig(big.NewInt(int64(v))))
	}
}

func TestP1_1Small(t *testing.T) {
	rows := []struct {
		x  api.Int
		v  int
		ok bool
	}{
		{words(), 0, true},
		{words(0, 0, 0), 0, true},
		{minus(), 0, true},
		{minus(0, 0), 0, true},
		{words(5, 0, 0, 0), 5, true},
		{minus(5, 0, 0, 0), -5, true},
		{words(0, 1), 1 << 32, true},
		{words(top, 1<<31-1), math.MaxInt, true},
		{words(0, 1<<31), 0, false},
		{words(0, 1<<31, 0), 0, false},
		{minus(top, 1<<31-1), -math.MaxInt, true},
		{minus(0, 1<<31), math.MinInt, true},
		{minus(0, 1<<31, 0), math.MinInt, true},
		{minus(1, 1<<31), 0, false},
		{words(top, top), 0, false},
		{minus(top, top), 0, false},
		{words(0, 0, 1), 0, false},
		{minus(0, 0, 1), 0, false},
		{power(api.MaxLimbs), 0, false},
	}
	for _, row := range rows {
		if v, ok := whole.Small(row.x); v != row.v || ok != row.ok {
			t.Errorf("Small(%v): got %d, %v, want %d, %v", row.x, v, ok, row.v, row.ok)
		}
	}
}

func TestP1_2Compare(t *testing.T) {
	// Each row is Ints of one value; the rows rise.
	rising := [][]api.Int{
		{minus(power(300).Mag...)},
		{minus(0, 0, 2)},
		{minus(top, top, 1)},
		{minus(0, 1, 0), minus(0, 1)},
		{minus(5), minus(5, 0, 0)},
		{minus(4)},
		{words(), minus(), minus(0), words(0, 0)},
		{words(4)},
		{words(5), words(5, 0)},
		{words(0, 1)},
		{words(1, 1)},
		{words(0, 2)},
		{power(300)},
	}
	for i, row := range rising {
		for j, other := range rising {
			wanted := 0
			if i < j {
				wanted = -1
			} else if i > j {
				wanted = 1
			}
			for _, a := range row {
				for _, b := range other {
					if got := whole.Compare(a, b); got != wanted {
						t.Errorf("Compare(%v, %v): got %d, want %d", a, b, got, wanted)
					}
				}
			}
		}
	}
}

func TestP1_2Negate(t *testing.T) {
	rows := [][2]api.Int{
		{words(), words()},
		{minus(), words()},
		{minus(0, 0), words()},
		{words(0), words()},
		{words(9, 0), minus(9)},
		{minus(9, 0), words(9)},
		{words(0, 0, 3), minus(0, 0, 3)},
	}
	for _, row := range rows {
		want(t, fmt.Sprintf("Negate(%v)", row[0]), whole.Negate(row[0]), row[1])
	}
	for _, long := range longs() {
		b := toBig(long)
		want(t, "Negate of a long Int", whole.Negate(long), fromBig(b.Neg(b)))
	}
}

// reckon is a call of two Ints, and what math/big makes of the same.
type reckon struct {
	name  string
	call  func(a, b api.Int) (api.Int, api.Errno)
	other func(z, a, b *big.Int) *big.Int
}

func reckons() []reckon {
	return []reckon{
		{"Add", whole.Add, (*big.Int).Add},
		{"Sub", whole.Sub, (*big.Int).Sub},
		{"Mul", whole.Mul, (*big.Int).Mul},
	}
}

func TestP1_3AgainstMathBig(t *testing.T) {
	r := rand.New(rand.NewSource(13))
	for i := range 6000 {
		n := 6
		if i%20 == 0 {
			n = api.MaxLimbs + 2
		}
		a, b := random(r, n), random(r, n)
		x, y := toBig(a), toBig(b)
		for _, k := range reckons() {
			z := fromBig(k.other(new(big.Int), x, y))
			got, e := k.call(a, b)
			if len(z.Mag) > api.MaxLimbs || len(fromBig(x).Mag) > api.MaxLimbs || len(fromBig(y).Mag) > api.MaxLimbs {
				refused(t, k.name, got, e, api.ErrBig)
			} else if e != api.OK || !same(got, z) {
				t.Fatalf("%s(%s, %s): got %v, error %d", k.name, x, y, got, int(e))
			}
		}
	}
}

func TestP1_3LongArguments(t *testing.T) {
	for _, long := range longs() {
		// 0 too: a product with it would not be long, but an argument is.
		for _, other := range []api.Int{words(), words(1), minus(7), greatest(), long, whole.Negate(long)} {
			for _, k := range reckons() {
				got, e := k.call(long, other)
				refused(t, k.name+" of a long Int and another", got, e, api.ErrBig)
				got, e = k.call(other, long)
				refused(t, k.name+" of another and a long Int", got, e, api.ErrBig)
			}
		}
	}
}

func TestP1_3LongResults(t *testing.T) {
	one := words(1)
	high, low := greatest(), whole.Negate(greatest())
	sum, e := whole.Add(high, one)
	refused(t, "the greatest + 1", sum, e, api.ErrBig)
	sum, e = whole.Sub(low, one)
	refused(t, "the lowest - 1", sum, e, api.ErrBig)
	sum, e = whole.Sub(one, low)
	refused(t, "1 - the lowest", sum, e, api.ErrBig)
	sum, e = whole.Add(low, minus(1))
	refused(t, "the lowest + -1", sum, e, api.ErrBig)
	product, e := whole.Mul(high, words(2))
	refused(t, "the greatest times 2", product, e, api.ErrBig)
	product, e = whole.Mul(power(128), power(128))
	refused(t, "2^4096 times 2^4096", product, e, api.ErrBig)

	product, e = whole.Mul(power(128), minus(power(127).Mag...))
	if wanted := whole.Negate(power(255)); e != api.OK || !same(product, wanted) {
		t.Errorf("2^4096 times -2^4064: got %v, error %d", product, int(e))
	}
	sum, e = whole.Add(high, low)
	if e != api.OK || !isZero(sum) {
		t.Errorf("the greatest + the lowest: got %v, error %d", sum, int(e))
	}
	sum, e = whole.Add(high, minus(1))
	if back, f := whole.Add(sum, one); e != api.OK || f != api.OK || !same(back, high) {
		t.Errorf("the greatest - 1 + 1: got %v, errors %d, %d", back, int(e), int(f))
	}
}

func TestP1_3NotInForm(t *testing.T) {
	loose := api.Int{Mag: append([]uint32{3}, make([]uint32, 2*api.MaxLimbs)...)}
	nought := api.Int{Neg: true, Mag: make([]uint32, 2*api.MaxLimbs)}
	rows := []struct {
		name string
		call func(a, b api.Int) (api.Int, api.Errno)
		a, b api.Int
		want api.Int
	}{
		{"Add", whole.Add, loose, words(4, 0), words(7)},
		{"Add", whole.Add, nought, words(4), words(4)},
		{"Add", whole.Add, minus(4), nought, minus(4)},
		{"Add", whole.Add, nought, nought, words()},
		{"Sub", whole.Sub, loose, words(3), words()},
		{"Sub", whole.Sub, nought, words(), words()},
		{"Sub", whole.Sub, words(), nought, words()},
		{"Sub", whole.Sub, nought, minus(4), words(4)},
		{"Mul", whole.Mul, loose, minus(4, 0), minus(12)},
		{"Mul", whole.Mul, loose, nought, words()},
		{"Mul", whole.Mul, nought, words(4), words()},
		{"Mul", whole.Mul, minus(4), words(), words()},
	}
	for i, row := range rows {
		got, e := row.call(row.a, row.b)
		if e != api.OK || !same(got, row.want) {
			t.Errorf("row %d, %s: got %v, error %d, want %v", i, row.name, got, int(e), row.want)
		}
	}
}

// floor is what math/big says of a division that is rounded down.
func floor(x, y *big.Int) (q, r *big.Int) {
	q, r = new(big.Int).QuoRem(x, y, new(big.Int))
	if r.Sign() != 0 && r.Sign() != y.Sign() {
		q.Sub(q, big.NewInt(1))
		r.Add(r, y)
	}
	return q, r
}

func checkDivide(t *testing.T, a, b api.Int) {
	t.Helper()
	q, r := floor(toBig(a), toBig(b))
	gotQ, gotR, e := whole.Divide(a, b)
	if e != api.OK || !same(gotQ, fromBig(q)) || !same(gotR, fromBig(r)) {
		t.Fatalf("Divide(%s, %s): got %v, %v, error %d, want %s, %s", toBig(a), toBig(b), gotQ, gotR, int(e), q, r)
	}
}

func TestP1_4Signs(t *testing.T) {
	for a := -9; a <= 9; a++ {
		for b := -9; b <= 9; b++ {
			if b != 0 {
				checkDivide(t, whole.Of(a), whole.Of(b))
			}
		}
	}
	checkDivide(t, minus(0, 0), words(4, 0))
	checkDivide(t, minus(0), minus(4))
	checkDivide(t, minus(9, 0, 0), words(4, 0))
}

func TestP1_4AgainstMathBig(t *testing.T) {
	r := rand.New(rand.NewSource(14))
	for i := range 20000 {
		n, m := 8, 5
		if i%50 == 0 {
			n, m = api.MaxLimbs, api.MaxLimbs
		}
		a, b := random(r, n), random(r, m)
		if toBig(b).Sign() != 0 {
			checkDivide(t, a, b)
		}
	}
}

// A quotient's word can be guessed too great by one or two: these are such.
func TestP1_4GuessedTooGreat(t *testing.T) {
	checkDivide(t, words(0, 0, 1<<31, 1<<31-1), words(1, 0, 1<<31))
	checkDivide(t, words(3, 0, 1<<31), words(1, 0, 1<<29))
	checkDivide(t, words(0, top-1, 1<<31), words(top, 1<<31))
	checkDivide(t, words(0, 0, 0, 1<<31), words(top, top, 1<<31))
	checkDivide(t, words(top, top, top, top), words(top, top))
	checkDivide(t, words(top, top, top-1, top), words(top, top, top))
	checkDivide(t, minus(0, 0, 1<<31, 1<<31-1), words(1, 0, 1<<31))
}

func TestP1_4AtTheLimit(t *testing.T) {
	high, low := greatest(), whole.Negate(greatest())
	for _, a := range []api.Int{high, low} {
		for _, b := range []api.Int{words(1), minus(1), words(2), minus(2), words(top), high, low, power(255), whole.Negate(power(128))} {
			checkDivide(t, a, b)
		}
	}
	checkDivide(t, words(1), high)
	checkDivide(t, words(1), low)
}

func TestP1_4Refused(t *testing.T) {
	refuse := func(what string, a, b api.Int, wanted api.Errno) {
		t.Helper()
		q, r, e := whole.Divide(a, b)
		refused(t, what, q, e, wanted)
		refused(t, what, r, e, wanted)
	}
	for _, nought := range []api.Int{words(), minus(), words(0, 0), minus(0)} {
		refuse("Divide(1, 0)", words(1), nought, api.ErrZero)
		refuse("Divide(0, 0)", nought, nought, api.ErrZero)
		refuse("Divide(greatest, 0)", greatest(), nought, api.ErrZero)
		for _, long := range longs() {
			refuse("Divide(long, 0)", long, nought, api.ErrBig)
			refuse("Divide(0, long)", nought, long, api.ErrBig)
		}
	}
	for _, long := range longs() {
		refuse("Divide(long, long)", long, long, api.ErrBig)
		refuse("Divide(long, 2)", long, words(2), api.ErrBig)
		refuse("Divide(7, long)", words(7), long, api.ErrBig)
	}
}

func TestP1_5Modulus(t *testing.T) {
	for _, a := range []api.Int{words(), words(9), minus(9), greatest(), power(api.MaxLimbs)} {
		for _, m := range []int{0, -1, -5, 1<<62 + 1, math.MaxInt, math.MinInt} {
			if r, e := whole.Rest(a, m); r != 0 || e != api.ErrArg {
				t.Errorf("Rest(%v, %d): got %d, error %d, want ErrArg", a, m, r, int(e))
			}
		}
		if r, e := whole.Rest(a, 1); r != 0 || e != api.OK {
			t.Errorf("Rest(%v, 1): got %d, error %d", a, r, int(e))
		}
	}
}

func TestP1_5AgainstMathBig(t *testing.T) {
	r := rand.New(rand.NewSource(15))
	ints := []api.Int{words(), minus(0), words(0, 0), whole.Of(math.MaxInt), whole.Of(math.MinInt), whole.Of(1 << 62), whole.Of(-1 << 62), greatest(), whole.Negate(greatest())}
	ints = append(ints, longs()...)
	for range 500 {
		ints = append(ints, random(r, 9), random(r, 2*api.MaxLimbs))
	}
	for _, a := range ints {
		for _, m := range []int{1, 2, 3, 5, 1<<32 - 1, 1 << 32, 1<<32 + 1, api.Mersenne, 1<<62 - 1, 1 << 62, 1 + r.Intn(1<<62)} {
			wanted := new(big.Int).Mod(toBig(a), big.NewInt(int64(m))).Int64()
			if got, e := whole.Rest(a, m); e != api.OK || int64(got) != wanted {
				t.Fatalf("Rest(%s, %d): got %d, error %d, want %d", toBig(a), m, got, int(e), wanted)
			}
		}
	}
}

func TestP1_6ParseReads(t *testing.T) {
	rows := []string{"0", "1", "-1", "9", "-9", "10", "100", "999999999", "1000000000", "-1000000000", "1000000001", "4294967295", "4294967296", "-4294967296", "9223372036854775807", "-9223372036854775808", "1" + strings.Repeat("0", 27), strings.Repeat("9", 100), "-1" + strings.Repeat("0", 999) + "7"}
	for _, s := range rows {
		got, e := whole.Parse(s)
		if e != api.OK {
			t.Errorf("Parse(%s): error %d", s, int(e))
		}
		want(t, "Parse("+s+")", got, number(t, s))
	}
}

func TestP1_6ParseRefuses(t *testing.T) {
	many := strings.Repeat("9", 3000)
	rows := []string{"", "-", "-0", "00", "07", "-07", "-00", "+1", "+0", "--1", "1-", "1-2", " 1", "1 ", "1\n", "1a", "a1", "0x1", "1_0", "1.0", "1e3", "/", ":", "5:", "5/", "\x00", "1\x00", "\xff", "٣", "１", many + "x", "0" + many, "-0" + many, many + "-"}
	for _, s := range rows {
		got, e := whole.Parse(s)
		refused(t, fmt.Sprintf("Parse(%q)", s), got, e, api.ErrText)
	}
}

func TestP1_6ParseOfLong(t *testing.T) {
	one := big.NewInt(1)
	bound := toBig(power(api.MaxLimbs))
	highest := new(big.Int).Sub(bound, one)
	for _, s := range []string{bound.String(), "-" + bound.String(), new(big.Int).Add(bound, one).String(), "9" + strings.Repeat("9", len(bound.String())-1), "1" + strings.Repeat("0", len(bound.String())), strings.Repeat("9", 3000), "-1" + strings.Repeat("0", 100000)} {
		got, e := whole.Parse(s)
		refused(t, "Parse of a long number", got, e, api.ErrBig)
	}
	got, e := whole.Parse(highest.String())
	if e != api.OK || !same(got, greatest()) {
		t.Errorf("Parse of the greatest: got %v, error %d", got, int(e))
	}
	got, e = whole.Parse("-" + highest.String())
	if e != api.OK || !same(got, whole.Negate(greatest())) {
		t.Errorf("Parse of the lowest: got %v, error %d", got, int(e))
	}
}

func TestP1_6Text(t *testing.T) {
	r := rand.New(rand.NewSource(16))
	ints := []api.Int{words(), minus(), words(0, 0), minus(0), words(10, 0), minus(10, 0), words(1000000000), words(999999999), greatest(), whole.Negate(greatest()), power(1000)}
	ints = append(ints, longs()...)
	for range 300 {
		ints = append(ints, random(r, 7), random(r, 3*api.MaxLimbs))
	}
	for digits := range 60 {
		power := new(big.Int).Exp(big.NewInt(10), big.NewInt(int64(digits)), nil)
		ints = append(ints, fromBig(power), fromBig(new(big.Int).Sub(power, big.NewInt(1))))
	}
	for _, a := range ints {
		if got := whole.Text(a); got != toBig(a).String() {
			t.Fatalf("Text(%v): got %s, want %s", a, got, toBig(a))
		}
	}
}

func TestP1_7ParseOfText(t *testing.T) {
	r := rand.New(rand.NewSource(17))
	for range 500 {
		a := random(r, 20)
		back, e := whole.Parse(whole.Text(a))
		if e != api.OK || whole.Compare(back, a) != 0 || !same(back, fromBig(toBig(a))) {
			t.Fatalf("Parse(Text(%v)): got %v, error %d", a, back, int(e))
		}
	}
	for _, v := range someInts {
		if got, ok := whole.Small(whole.Of(v)); got != v || !ok {
			t.Errorf("Small(Of(%d)): got %d, %v", v, got, ok)
		}
	}
}

// must is a result that may not be refused.
func must(t *testing.T) func(x api.Int, e api.Errno) api.Int {
	return func(x api.Int, e api.Errno) api.Int {
		t.Helper()
		if e != api.OK {
			t.Fatalf("refused: %d", int(e))
		}
		return x
	}
}

func TestP1_7Laws(t *testing.T) {
	r := rand.New(rand.NewSource(71))
	ok := must(t)
	for range 2000 {
		a, b, c := random(r, 12), random(r, 12), random(r, 12)
		want(t, "a + b = b + a", ok(whole.Add(a, b)), ok(whole.Add(b, a)))
		want(t, "a b = b a", ok(whole.Mul(a, b)), ok(whole.Mul(b, a)))
		want(t, "(a + b) + c = a + (b + c)", ok(whole.Add(ok(whole.Add(a, b)), c)), ok(whole.Add(a, ok(whole.Add(b, c)))))
		want(t, "(a b) c = a (b c)", ok(whole.Mul(ok(whole.Mul(a, b)), c)), ok(whole.Mul(a, ok(whole.Mul(b, c)))))
		want(t, "a (b + c) = a b + a c", ok(whole.Mul(a, ok(whole.Add(b, c)))), ok(whole.Add(ok(whole.Mul(a, b)), ok(whole.Mul(a, c)))))
		want(t, "a - b = a + -b", ok(whole.Sub(a, b)), ok(whole.Add(a, whole.Negate(b))))
		if q, left, e := whole.Divide(a, b); e == api.OK {
			back := ok(whole.Add(ok(whole.Mul(q, b)), left))
			if whole.Compare(back, a) != 0 {
				t.Fatalf("a = q b + r: a %s, b %s, q %s, r %s", whole.Text(a), whole.Text(b), whole.Text(q), whole.Text(left))
			}
		} else if e != api.ErrZero || whole.Compare(b, words()) != 0 {
			t.Fatalf("Divide(%v, %v): error %d", a, b, int(e))
		}
	}
}

func TestP1_7DivideAndRestAgree(t *testing.T) {
	r := rand.New(rand.NewSource(72))
	for range 2000 {
		a, m := random(r, 20), 1+r.Intn(1<<62)
		if r.Intn(2) == 0 {
			m = 1 + r.Intn(100)
		}
		_, left, e := whole.Divide(a, whole.Of(m))
		rest, f := whole.Rest(a, m)
		if small, ok := whole.Small(left); e != api.OK || f != api.OK || !ok || small != rest {
			t.Fatalf("a %s, m %d: Divide leaves %s, Rest %d", whole.Text(a), m, whole.Text(left), rest)
		}
	}
}

// guarded is an Int with spare room, and a check that nothing of it has changed.
func guarded(x api.Int) (api.Int, func() bool) {
	const mark = 0xabcdef01
	room := make([]uint32, len(x.Mag)+4)
	copy(room, x.Mag)
	for i := len(x.Mag); i < len(room); i++ {
		room[i] = mark
	}
	before := slices.Clone(room)
	return api.Int{Neg: x.Neg, Mag: room[:len(x.Mag)]}, func() bool { return slices.Equal(room, before) }
}

// spoil overwrites all the memory behind an Int.
func spoil(x api.Int) {
	room := x.Mag[:cap(x.Mag)]
	for i := range room {
		room[i] = 0x55555555
	}
}

// answers is all the Ints that the calls answer of a and b.
func answers(a, b api.Int) []api.Int {
	sum, _ := whole.Add(a, b)
	difference, _ := whole.Sub(a, b)
	product, _ := whole.Mul(a, b)
	q, r, _ := whole.Divide(a, b)
	return []api.Int{sum, difference, product, q, r, whole.Negate(a), whole.Negate(b)}
}

func TestP1_8ArgumentsStandAnswersAreNew(t *testing.T) {
	r := rand.New(rand.NewSource(18))
	ints := []api.Int{words(), minus(0), words(5), words(5, 0), minus(1), words(0, 0, 1), greatest(), power(api.MaxLimbs)}
	for range 40 {
		ints = append(ints, random(r, 6))
	}
	for _, x := range ints {
		for _, y := range ints {
			a, aStands := guarded(x)
			b, bStands := guarded(y)
			got := answers(a, b)
			whole.Compare(a, b)
			whole.Small(a)
			whole.Text(a)
			whole.Rest(a, 10)
			if !aStands() || !bStands() {
				t.Fatalf("%v, %v: what was handed in has changed", x, y)
			}
			wanted := answers(x, y)
			spoil(a)
			spoil(b)
			for i := range got {
				if !same(got[i], wanted[i]) {
					t.Fatalf("%v, %v: answer %d shares memory with an argument", x, y, i)
				}
				spoil(got[i])
				for j := i + 1; j < len(got); j++ {
					if !same(got[j], wanted[j]) {
						t.Fatalf("%v, %v: answers %d and %d share memory", x, y, i, j)
					}
				}
			}
		}
	}
}

func TestP1_8OneArgumentTwice(t *testing.T) {
	a := words(7, 9)
	got := answers(a, a)
	wanted := []api.Int{words(14, 18), words(), words(49, 126, 81), words(1), words(), minus(7, 9), minus(7, 9)}
	for i := range wanted {
		want(t, fmt.Sprintf("answer %d of one argument twice", i), got[i], wanted[i])
	}
}

func TestP1_8NothingIsKept(t *testing.T) {
	one, two := whole.Of(41), whole.Of(41)
	spoil(one)
	want(t, "Of(41) behind a spoilt one", two, words(41))
	want(t, "Of(41) once more", whole.Of(41), words(41))
	first, _ := whole.Parse("18446744073709551616")
	spoil(first)
	second, _ := whole.Parse("18446744073709551616")
	want(t, "Parse once more", second, words(0, 0, 1))
}

func TestExamples(t *testing.T) {
	want(t, "Of(-7)", whole.Of(-7), minus(7))
	if v, ok := whole.Small(whole.Of(-7)); v != -7 || !ok {
		t.Errorf("Small(Of(-7)): %d, %v", v, ok)
	}
	if c := whole.Compare(whole.Of(2), whole.Of(3)); c != -1 {
		t.Errorf("Compare(2, 3): %d", c)
	}
	want(t, "Negate(Of(0))", whole.Negate(whole.Of(0)), words())

	great, e := whole.Parse("18446744073709551616")
	if e != api.OK {
		t.Errorf("Parse(2^64): error %d", int(e))
	}
	want(t, "Parse(2^64)", great, words(0, 0, 1))
	if s := whole.Text(words(0, 0, 1, 0)); s != "18446744073709551616" {
		t.Errorf("Text(2^64): %s", s)
	}
	if s := whole.Text(minus(0, 0, 1, 0)); s != "-18446744073709551616" {
		t.Errorf("Text(-2^64): %s", s)
	}

	for _, row := range [][4]int{{7, 2, 3, 1}, {-7, 2, -4, 1}, {7, -2, -4, -1}, {-7, -2, 3, -1}} {
		q, r, e := whole.Divide(whole.Of(row[0]), whole.Of(row[1]))
		if e != api.OK || !same(q, whole.Of(row[2])) || !same(r, whole.Of(row[3])) {
			t.Errorf("Divide(%d, %d): %v, %v, error %d", row[0], row[1], q, r, int(e))
		}
	}
	q, _, e := whole.Divide(whole.Of(1), whole.Of(0))
	refused(t, "Divide(1, 0)", q, e, api.ErrZero)

	if r, e := whole.Rest(whole.Of(-1), 5); r != 4 || e != api.OK {
		t.Errorf("Rest(-1, 5): %d, error %d", r, int(e))
	}
	if r, e := whole.Rest(whole.Of(9), 0); r != 0 || e != api.ErrArg {
		t.Errorf("Rest(9, 0): %d, error %d", r, int(e))
	}
	for _, s := range []string{"-0", "07", ""} {
		x, e := whole.Parse(s)
		refused(t, fmt.Sprintf("Parse(%q)", s), x, e, api.ErrText)
	}
	if v, ok := whole.Small(words(0, 1<<31)); v != 0 || ok {
		t.Errorf("Small(2^63): %d, %v", v, ok)
	}
	if v, ok := whole.Small(minus(0, 1<<31)); v != math.MinInt || !ok {
		t.Errorf("Small(-2^63): %d, %v", v, ok)
	}
}

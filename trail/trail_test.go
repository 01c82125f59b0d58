package trail_test

import (
	"iter"
	"math"
	"math/big"
	"math/rand"
	"slices"
	"testing"

	"lexicon/api"
	"lexicon/trail"
)

// hashes are the edges: about 0, about each shift by 5, about the ends of an int and of a table.
func hashes() []int {
	all := []int{
		0, 1, 2, 5, 7, 8, 31, 32, 33, 987654321987654321,
		-1, -2, -31, -32, -33, -987654321987654321,
		math.MinInt, math.MinInt + 1, math.MaxInt, math.MaxInt - 1,
		1<<api.MaxLog - 1, 1 << api.MaxLog, 1<<api.MaxLog + 3,
	}
	for bit := 5; bit < 64; bit += 5 {
		edge := 1 << bit
		all = append(all, edge-1, edge, -edge, -edge-1)
	}
	return all
}

// badLogs are such that there is no table of 2^log cells.
var badLogs = []int{
	-1, -2, -63, -64, math.MinInt, math.MinInt + 1,
	api.MaxLog + 1, api.MaxLog + 2, 31, 32, 62, 63, 64, 65, 1 << 32, math.MaxInt - 1, math.MaxInt,
}

// take is the first n cells of All, or all that it has.
func take(cells iter.Seq[int], n int) []int {
	var got []int
	if n == 0 {
		return got
	}
	for cell := range cells {
		got = append(got, cell)
		if len(got) == n {
			break
		}
	}
	return got
}

// length is how many cells All is to have.
func length(log int) int { return 1<<log + api.Steps }

// unsigned is a hash as an unsigned word.
func unsigned(hash int) *big.Int {
	b := big.NewInt(int64(hash))
	if b.Sign() < 0 {
		b.Add(b, new(big.Int).Lsh(big.NewInt(1), 64))
	}
	return b
}

// reckoned is the trail's first n cells, word by word as the document says them, in numbers that know no words.
func reckoned(hash, log, n int) []int {
	size := new(big.Int).Lsh(big.NewInt(1), uint(log))
	thirtyTwo, five, one := big.NewInt(32), big.NewInt(5), big.NewInt(1)
	p := unsigned(hash)
	cell := new(big.Int).Mod(p, size)
	var row []int
	for range n {
		row = append(row, int(cell.Int64()))
		p.Div(p, thirtyTwo)
		cell.Mul(cell, five).Add(cell, p).Add(cell, one).Mod(cell, size)
	}
	return row
}

func TestP5_1Trails(t *testing.T) {
	rows := []struct {
		hash, log int
		want      []int
	}{
		{0, 3, []int{0, 1, 6, 7, 4, 5, 2, 3, 0, 1, 6, 7, 4, 5, 2, 3, 0, 1, 6, 7, 4}},
		{1, 3, []int{1, 6, 7, 4, 5, 2, 3, 0, 1}},
		{9, 3, []int{1, 6, 7, 4, 5, 2, 3, 0, 1}},
		{32, 3, []int{0, 2, 3, 0, 1, 6, 7, 4, 5}},
		{33, 3, []int{1, 7, 4, 5, 2}},
		{1024, 3, []int{0, 1, 7, 4, 5}},
		{-1, 3, []int{7, 3, 7, 3, 7, 3, 7, 3, 7, 3, 7, 3, 7, 4, 5, 2, 3, 0, 1, 6, 7}},
		{math.MinInt, 3, []int{0, 1, 6, 7, 4, 5, 2, 3, 0, 1, 6, 7, 4, 5, 2, 3, 0, 1, 6, 7, 4}},
		{math.MinInt, 4, []int{0, 1, 6, 15, 12, 13, 2, 11, 8, 9, 14, 7, 12, 13, 2, 11}},
		{0, 0, []int{0, 0, 0, 0, 0, 0, 0, 0, 0, 0, 0, 0, 0, 0}},
		{-7, 0, []int{0, 0, 0, 0, 0, 0, 0, 0, 0, 0, 0, 0, 0, 0}},
		{0, 1, []int{0, 1, 0, 1, 0, 1, 0, 1, 0, 1, 0, 1, 0, 1, 0}},
		{1, 1, []int{1, 0, 1, 0, 1, 0, 1, 0, 1, 0, 1, 0, 1, 0, 1}},
		{-1, 1, []int{1, 1, 1, 1, 1, 1, 1, 1, 1, 1, 1, 1, 1, 0, 1}},
		{1 << 20, api.MaxLog, []int{0, 1<<15 + 1, 5<<15 + 5 + 1<<10 + 1}},
		{-1, api.MaxLog, []int{1<<20 - 1, 1<<20 - 5, 1<<20 - 25}},
	}
	for _, row := range rows {
		if got := take(trail.All(row.hash, row.log), len(row.want)); !slices.Equal(got, row.want) {
			t.Errorf("All(%d, %d): got %v, want %v", row.hash, row.log, got, row.want)
		}
	}
}

func TestP5_1EachCellIsReckonedFromTheOneAhead(t *testing.T) {
	check := func(hash, log, n int) {
		t.Helper()
		got, want := take(trail.All(hash, log), n), reckoned(hash, log, n)
		if !slices.Equal(got, want) {
			t.Errorf("All(%d, %d): got %v, want %v", hash, log, got, want)
		}
	}
	draw := rand.New(rand.NewSource(51))
	for log := range api.MaxLog + 1 {
		for _, hash := range hashes() {
			check(hash, log, min(length(log), 100))
		}
		for range 100 {
			check(int(draw.Uint64()), log, min(length(log), 30))
		}
	}
	for _, hash := range []int{0, -1, math.MinInt, 987654321987654321} {
		check(hash, 11, length(11)) // a whole one, not its beginning alone
	}
}

func TestP5_2FirstIsTheFirstCell(t *testing.T) {
	rows := []struct{ hash, log, want int }{
		{0, 0, 0}, {5, 0, 0}, {-1, 0, 0}, {math.MaxInt, 0, 0},
		{0, 1, 0}, {1, 1, 1}, {2, 1, 0}, {-1, 1, 1}, {-2, 1, 0}, {math.MinInt, 1, 0}, {math.MaxInt, 1, 1},
		{31, 3, 7}, {32, 3, 0}, {-1, 3, 7}, {-8, 3, 0}, {-9, 3, 7}, {31, 5, 31}, {32, 5, 0},
		{1<<20 - 1, api.MaxLog, 1<<20 - 1}, {1 << 20, api.MaxLog, 0}, {1<<20 + 3, api.MaxLog, 3},
		{-1, api.MaxLog, 1<<20 - 1}, {math.MinInt, api.MaxLog, 0}, {math.MinInt + 3, api.MaxLog, 3}, {math.MaxInt, api.MaxLog, 1<<20 - 1},
	}
	for _, row := range rows {
		if got := trail.First(row.hash, row.log); got != row.want {
			t.Errorf("First(%d, %d): got %d, want %d", row.hash, row.log, got, row.want)
		}
	}
	for log := range api.MaxLog + 1 {
		for _, hash := range hashes() {
			got := trail.First(hash, log)
			if ahead := take(trail.All(hash, log), 1); got != ahead[0] || got != reckoned(hash, log, 1)[0] {
				t.Errorf("First(%d, %d): got %d, All begins with %v", hash, log, got, ahead)
			}
		}
	}
}

func TestP5_2HowManyCellsAllHas(t *testing.T) {
	for log := range api.MaxLog + 1 {
		for _, hash := range []int{0, 1, -1, 31, 32, math.MinInt, math.MaxInt} {
			n := 0
			for cell := range trail.All(hash, log) {
				if cell < 0 || cell >= 1<<log {
					t.Fatalf("All(%d, %d): a cell %d", hash, log, cell)
				}
				n++
			}
			if n != length(log) {
				t.Errorf("All(%d, %d): %d cells, want %d", hash, log, n, length(log))
			}
		}
	}
}

func TestP5_2OfAnotherLogThereIsNothing(t *testing.T) {
	for _, log := range badLogs {
		for _, hash := range hashes() {
			if got := trail.First(hash, log); got != 0 {
				t.Errorf("First(%d, %d): got %d", hash, log, got)
			}
			for cell := range trail.All(hash, log) {
				t.Errorf("All(%d, %d): a cell %d", hash, log, cell)
				break
			}
		}
	}
}

func TestP5_2ATrailThatIsLeftIsGoneThroughAgain(t *testing.T) {
	for _, log := range []int{0, 1, 3, 8} {
		for _, hash := range []int{0, 1, -1, 32, math.MinInt, math.MaxInt} {
			whole := reckoned(hash, log, length(log))
			all := trail.All(hash, log)
			for _, n := range []int{1, 2, len(whole) - 1, len(whole), 1, len(whole) + 1, len(whole)} {
				if got, want := take(all, n), whole[:min(n, len(whole))]; !slices.Equal(got, want) {
					t.Errorf("All(%d, %d), %d cells: got %v, want %v", hash, log, n, got, want)
				}
			}
		}
	}
}

// TestP5_2NothingComesBehindLeaving calls the iterator by hand: a range would hide a call behind the one that said no by a panic alone.
func TestP5_2NothingComesBehindLeaving(t *testing.T) {
	const log = 3
	for stop := 1; stop <= length(log); stop++ {
		calls := 0
		trail.All(-1, log)(func(int) bool {
			calls++
			return calls != stop
		})
		if calls != stop {
			t.Errorf("left at the call number %d: %d calls", stop, calls)
		}
	}
}

func TestP5_2OneTrailWithinAnother(t *testing.T) {
	one, other := trail.All(-1, 3), trail.All(33, 4)
	ofOne, ofOther := reckoned(-1, 3, length(3)), reckoned(33, 4, length(4))
	var outer []int
	for cell := range one {
		outer = append(outer, cell)
		if got := take(one, len(outer)); !slices.Equal(got, ofOne[:len(outer)]) {
			t.Errorf("the same one within itself: got %v", got)
		}
		if got := take(other, length(4)); !slices.Equal(got, ofOther) {
			t.Errorf("the other within the one: got %v", got)
		}
	}
	if !slices.Equal(outer, ofOne) {
		t.Errorf("the outer one: got %v, want %v", outer, ofOne)
	}
}

func TestP5_2TwoGoThroughOneTrailByTurns(t *testing.T) {
	all := trail.All(math.MinInt+77, 5)
	want := reckoned(math.MinInt+77, 5, length(5))
	first, leaveFirst := iter.Pull(all)
	second, leaveSecond := iter.Pull(all)
	defer leaveFirst()
	defer leaveSecond()
	first()
	for i, cell := range want {
		if got, ok := second(); got != cell || !ok {
			t.Errorf("the second one, at %d: got %d, %v, want %d", i, got, ok, cell)
		}
		if i+1 == len(want) {
			break
		}
		if got, ok := first(); got != want[i+1] || !ok {
			t.Errorf("the first one, at %d: got %d, %v, want %d", i+1, got, ok, want[i+1])
		}
	}
}

func TestP5_3Shifts(t *testing.T) {
	rows := []struct{ hash, want int }{
		{0, 0}, {1, 1}, {31, 1}, {32, 2}, {33, 2}, {1023, 2}, {1024, 3},
		{1<<55 - 1, 11}, {1 << 55, 12}, {1<<60 - 1, 12}, {1 << 60, 13}, {1 << 62, 13}, {math.MaxInt, 13},
		{-1, 13}, {-2, 13}, {-31, 13}, {-32, 13}, {math.MinInt, 13}, {math.MinInt + 1, 13},
	}
	for _, row := range rows {
		if got := trail.Shifts(row.hash); got != row.want {
			t.Errorf("Shifts(%d): got %d, want %d", row.hash, got, row.want)
		}
	}
	for bit := range 63 {
		if got, want := trail.Shifts(1<<bit), bit/5+1; got != want {
			t.Errorf("Shifts(2^%d): got %d, want %d", bit, got, want)
		}
	}
}

func TestP5_3SoManyShiftsLeaveNothing(t *testing.T) {
	draw := rand.New(rand.NewSource(53))
	all := hashes()
	for range 2000 {
		all = append(all, int(draw.Uint64()>>draw.Intn(64)))
	}
	for _, hash := range all {
		n := trail.Shifts(hash)
		if n < 0 || n > api.Steps {
			t.Fatalf("Shifts(%d): got %d", hash, n)
		}
		p := unsigned(hash)
		if left := new(big.Int).Rsh(p, uint(5*n)); left.Sign() != 0 {
			t.Errorf("Shifts(%d): got %d, which leaves %v", hash, n, left)
		}
		if n > 0 && new(big.Int).Rsh(p, uint(5*(n-1))).Sign() == 0 {
			t.Errorf("Shifts(%d): got %d, one less leaves nothing", hash, n)
		}
	}
}

// eachOnce tells whether a row is all cells of a table, each once.
func eachOnce(row []int, log int) bool {
	seen := make([]bool, 1<<log)
	for _, cell := range row {
		if cell < 0 || cell >= len(seen) || seen[cell] {
			return false
		}
		seen[cell] = true
	}
	return len(row) == len(seen)
}

// comesToEach tells whether all cells of a table stand in a row.
func comesToEach(row []int, log int) bool {
	seen := map[int]bool{}
	for _, cell := range row {
		seen[cell] = true
	}
	return len(seen) == 1<<log
}

func TestP5_4AllComesToEachCell(t *testing.T) {
	draw := rand.New(rand.NewSource(54))
	for log := range 8 {
		all := hashes()
		for range 200 {
			all = append(all, int(draw.Uint64()))
		}
		for _, hash := range all {
			row := slices.Collect(trail.All(hash, log))
			if !comesToEach(row[:1<<log+trail.Shifts(hash)], log) {
				t.Errorf("All(%d, %d): not each cell among the first", hash, log)
			}
		}
	}
}

func TestP5_4EachSoManyInARowAreAllCells(t *testing.T) {
	for log := range 9 {
		for _, hash := range hashes() {
			row := slices.Collect(trail.All(hash, log))
			for from := trail.Shifts(hash); from+1<<log <= len(row); from++ {
				if !eachOnce(row[from:from+1<<log], log) {
					t.Errorf("All(%d, %d): not each cell once, from the number %d on", hash, log, from)
				}
			}
		}
	}
}

func TestP5_4OfGreatTables(t *testing.T) {
	for log := 9; log <= api.MaxLog; log++ {
		for _, hash := range []int{0, 31, -1, math.MinInt, 987654321987654321} {
			row := slices.Collect(trail.All(hash, log))
			from := trail.Shifts(hash)
			if !eachOnce(row[from:from+1<<log], log) {
				t.Errorf("All(%d, %d): not each cell once", hash, log)
			}
			// A row that goes on with the cell it began with moves on as a whole.
			if !slices.Equal(row[from+1<<log:], row[from:len(row)-1<<log]) {
				t.Errorf("All(%d, %d): goes on otherwise than it began", hash, log)
			}
		}
	}
}

// above is a number whose lowest bits are 0, and the next one is 1.
func above(draw *rand.Rand, bits int) int {
	return int((draw.Uint64() | 1) << bits)
}

func TestP5_5HashesThatAreTheSameAtTheirEnd(t *testing.T) {
	draw := rand.New(rand.NewSource(55))
	for log := range api.MaxLog + 1 {
		for k := 0; log+5*k < 64 && k < length(log); k++ {
			for _, hash := range append(hashes(), int(draw.Uint64()), int(draw.Uint64())) {
				like := hash + above(draw, log+5*k) // wraps round: modulo 2^64 too
				one, other := take(trail.All(hash, log), k+1), take(trail.All(like, log), k+1)
				if !slices.Equal(one, other) {
					t.Errorf("log %d, k %d: %d has %v, %d has %v", log, k, hash, one, like, other)
				}
			}
		}
	}
}

func TestP5_5TheNextCellTellsThemApart(t *testing.T) {
	draw := rand.New(rand.NewSource(56))
	for log := 5; log <= api.MaxLog; log++ {
		for k := 0; log+5*k < 64; k++ {
			hash := int(draw.Uint64())
			unlike := hash ^ 1<<(log+5*k)
			one, other := take(trail.All(hash, log), k+2), take(trail.All(unlike, log), k+2)
			if one[k] != other[k] || one[k+1] == other[k+1] {
				t.Errorf("log %d, k %d: %d has %v, %d has %v", log, k, hash, one, unlike, other)
			}
		}
	}
}

func TestExamplesOfChapter5(t *testing.T) {
	rows := []struct {
		hash, log int
		want      []int
	}{
		{0, 3, []int{0, 1, 6, 7, 4, 5, 2, 3, 0}},
		{1, 3, []int{1, 6, 7, 4, 5}},
		{33, 3, []int{1, 7, 4, 5, 2}},
	}
	for _, row := range rows {
		if got := take(trail.All(row.hash, row.log), len(row.want)); !slices.Equal(got, row.want) {
			t.Errorf("All(%d, %d): got %v, want %v", row.hash, row.log, got, row.want)
		}
	}
	if got := trail.First(-1, 3); got != 7 {
		t.Errorf("First(-1, 3): got %d", got)
	}
	for _, row := range []struct{ hash, want int }{{0, 0}, {31, 1}, {32, 2}, {-1, 13}} {
		if got := trail.Shifts(row.hash); got != row.want {
			t.Errorf("Shifts(%d): got %d, want %d", row.hash, got, row.want)
		}
	}
	if got := len(slices.Collect(trail.All(5, 3))); got != 21 {
		t.Errorf("All(5, 3): %d cells", got)
	}
	if got := slices.Collect(trail.All(5, 21)); len(got) != 0 {
		t.Errorf("All(5, 21): %v", got)
	}
}

// TestWalks: a Walk that is left at each cell, and gone on with, goes along the trail; a copy of it goes on by itself.
func TestWalks(t *testing.T) {
	for _, log := range []int{0, 1, 3, 8} {
		for _, hash := range hashes() {
			want := reckoned(hash, log, length(log)+3)
			walk := trail.Begin(hash, log)
			for i, cell := range want {
				copied := walk
				copied.Step()
				if walk.Cell() != cell || walk.Cell() != cell {
					t.Fatalf("a Walk of %d, log %d: cell %d: got %d, want %d", hash, log, i, walk.Cell(), cell)
				}
				walk.Step()
				if copied != walk {
					t.Fatalf("a Walk of %d, log %d: a copy goes another way", hash, log)
				}
			}
		}
	}
	for _, log := range badLogs {
		walk := trail.Begin(-1, log)
		for range 3 {
			if walk.Cell() != 0 {
				t.Errorf("a Walk at the log %d: got the cell %d", log, walk.Cell())
			}
			walk.Step()
		}
	}
}

package cells_test

import (
	"bytes"
	"encoding/binary"
	"math"
	"math/rand"
	"slices"
	"testing"

	"lexicon/api"
	"lexicon/cells"
)

// shapes are what the document says of each table, by hand.
var shapes = []struct{ log, size, room, width int }{
	{3, 8, 5, 1},
	{4, 16, 10, 1},
	{5, 32, 21, 1},
	{6, 64, 42, 1},
	{7, 128, 85, 1},
	{8, 256, 170, 2},
	{9, 512, 341, 2},
	{10, 1024, 682, 2},
	{11, 2048, 1365, 2},
	{12, 4096, 2730, 2},
	{13, 8192, 5461, 2},
	{14, 16384, 10922, 2},
	{15, 32768, 21845, 2},
	{16, 65536, 43690, 4},
	{17, 131072, 87381, 4},
	{18, 262144, 174762, 4},
	{19, 524288, 349525, 4},
	{20, 1048576, 699050, 4},
}

// badLogs are such that there are no cells.
var badLogs = []int{
	-1, 0, 1, 2, math.MinInt, math.MinInt + 1, -3, -64,
	api.MaxLog + 1, api.MaxLog + 2, 31, 32, 62, 63, 64, 67, 1 << 32, 1<<32 + 3, math.MaxInt - 1, math.MaxInt,
}

// made is New(log), which is to be.
func made(t *testing.T, log int) *cells.Cells {
	t.Helper()
	c, e := cells.New(log)
	if e != api.OK || c == nil {
		t.Fatalf("New(%d): got %v, error %d", log, c, e)
	}
	return c
}

// held is what each cell holds by Get.
func held(t *testing.T, c *cells.Cells) []int {
	t.Helper()
	row := make([]int, c.Size())
	for i := range row {
		v, e := c.Get(i)
		if e != api.OK {
			t.Fatalf("Get(%d) of %d cells: error %d", i, c.Size(), e)
		}
		row[i] = v
	}
	return row
}

// told is what each cell holds by All, which is to give the numbers from 0 on.
func told(t *testing.T, c *cells.Cells) []int {
	t.Helper()
	var row []int
	for i, v := range c.All() {
		if i != len(row) {
			t.Fatalf("All: got the number %d, want %d", i, len(row))
		}
		row = append(row, v)
	}
	return row
}

// laid is a row as bytes, by the library's way of laying words without a sign.
func laid(row []int, width int) []byte {
	var b []byte
	for _, v := range row {
		switch width {
		case 1:
			b = append(b, uint8(v))
		case 2:
			b = binary.LittleEndian.AppendUint16(b, uint16(v))
		case 4:
			b = binary.LittleEndian.AppendUint32(b, uint32(v))
		}
	}
	return b
}

// drawn is a row of size numbers that may be, each of the ends among them.
func drawn(draw *rand.Rand, size, room int) []int {
	row := make([]int, size)
	for i := range row {
		row[i] = draw.Intn(room+2) - 2
	}
	at := draw.Perm(size)
	row[at[0]], row[at[1]], row[at[2]], row[at[3]] = api.Empty, api.Dead, 0, room-1
	return row
}

// fill sets each cell.
func fill(t *testing.T, c *cells.Cells, row []int) {
	t.Helper()
	for i, v := range row {
		if e := c.Set(i, v); e != api.OK {
			t.Fatalf("Set(%d, %d) of %d cells: error %d", i, v, c.Size(), e)
		}
	}
}

func TestP6_1NewCells(t *testing.T) {
	for _, s := range shapes {
		c := made(t, s.log)
		if c.Log() != s.log || c.Size() != s.size || c.Room() != s.room || c.Width() != s.width {
			t.Errorf("New(%d): log %d, size %d, room %d, width %d", s.log, c.Log(), c.Size(), c.Room(), c.Width())
		}
		for i, v := range held(t, c) {
			if v != api.Empty {
				t.Fatalf("New(%d): cell %d holds %d", s.log, i, v)
			}
		}
	}
}

func TestP6_1NoSuchCells(t *testing.T) {
	for _, log := range badLogs {
		if c, e := cells.New(log); c != nil || e != api.ErrArg {
			t.Errorf("New(%d): got %v, error %d", log, c, e)
		}
	}
}

func TestP6_1CellsHaveNothingInCommon(t *testing.T) {
	a, b := made(t, 3), made(t, 3)
	a.Set(2, 1)
	if v, _ := b.Get(2); v != api.Empty {
		t.Errorf("a set cell is seen in others: %d", v)
	}
}

func TestP6_2GetAndSet(t *testing.T) {
	draw := rand.New(rand.NewSource(62))
	for _, s := range shapes {
		c := made(t, s.log)
		for range 2 { // the second time over what was there
			row := drawn(draw, s.size, s.room)
			fill(t, c, row)
			if got := held(t, c); !slices.Equal(got, row) {
				t.Fatalf("2^%d cells do not hold what was set", s.log)
			}
		}
	}
}

func TestP6_2EachValueOfNarrowCells(t *testing.T) {
	for _, s := range shapes[:6] {
		c := made(t, s.log)
		for v := -300; v <= 300; v++ {
			want := api.ErrArg
			if v == api.Empty || v == api.Dead || v >= 0 && v < s.room {
				want = api.OK
			}
			if e := c.Set(s.size-1, v); e != want {
				t.Errorf("Set(%d, %d) of 2^%d cells: error %d, want %d", s.size-1, v, s.log, e, want)
			}
			if got, _ := c.Get(s.size - 1); want == api.OK && got != v {
				t.Errorf("Get(%d) of 2^%d cells: got %d, want %d", s.size-1, s.log, got, v)
			}
		}
	}
}

func TestP6_2NoSuchCell(t *testing.T) {
	for _, s := range shapes {
		c := made(t, s.log)
		c.Set(0, 1)
		c.Set(s.size-1, 2)
		before := held(t, c)
		for _, i := range []int{-1, -2, -s.size, s.size, s.size + 1, 2 * s.size, 1 << 32, math.MinInt, math.MinInt + 1, math.MaxInt} {
			if v, e := c.Get(i); v != 0 || e != api.ErrIndex {
				t.Errorf("Get(%d) of 2^%d cells: got %d, error %d", i, s.log, v, e)
			}
			for _, v := range []int{api.Empty, api.Dead, 0, s.room - 1, -3, s.room, math.MinInt, math.MaxInt} {
				if e := c.Set(i, v); e != api.ErrIndex {
					t.Errorf("Set(%d, %d) of 2^%d cells: error %d", i, v, s.log, e)
				}
			}
		}
		if !slices.Equal(held(t, c), before) {
			t.Errorf("2^%d cells were changed by what was refused", s.log)
		}
	}
}

func TestP6_2NoSuchValue(t *testing.T) {
	for _, s := range shapes {
		c := made(t, s.log)
		c.Set(1, s.room-1)
		bad := []int{-3, -4, s.room, s.room + 1, s.size, 127, 128, 254, 255, 256, 65534, 65535, 65536, 1 << 31, 1<<32 - 1, 1<<32 - 2, 1 << 32, math.MinInt, math.MinInt + 1, math.MaxInt}
		for _, v := range bad {
			if v >= 0 && v < s.room {
				continue // an entry's number, where there is that much room
			}
			for _, i := range []int{0, 1, s.size - 1} {
				if e := c.Set(i, v); e != api.ErrArg {
					t.Errorf("Set(%d, %d) of 2^%d cells: error %d", i, v, s.log, e)
				}
			}
		}
		for i, want := range map[int]int{0: api.Empty, 1: s.room - 1, s.size - 1: api.Empty} {
			if v, e := c.Get(i); v != want || e != api.OK {
				t.Errorf("cell %d of 2^%d cells was changed to %d", i, s.log, v)
			}
		}
	}
}

func TestP6_3Bytes(t *testing.T) {
	rows := []struct {
		log  int
		row  []int
		want []byte
	}{
		{3, []int{0, 1, 2, 3, 4, api.Empty, api.Dead}, []byte{0, 1, 2, 3, 4, 0xff, 0xfe, 0xff}},
		{7, []int{84, 0, api.Dead, 16}, []byte{0x54, 0, 0xfe, 0x10, 0xff}},
		{8, []int{169, 0, api.Dead, 16}, []byte{0xa9, 0, 0, 0, 0xfe, 0xff, 0x10, 0, 0xff, 0xff}},
		{15, []int{21844, 255, api.Dead, 256}, []byte{0x54, 0x55, 0xff, 0, 0xfe, 0xff, 0, 1, 0xff, 0xff}},
		{16, []int{43689, 255, api.Dead, 256}, []byte{0xa9, 0xaa, 0, 0, 0xff, 0, 0, 0, 0xfe, 0xff, 0xff, 0xff, 0, 1, 0, 0, 0xff, 0xff, 0xff, 0xff}},
		{20, []int{699049, 65536, api.Dead}, []byte{0xa9, 0xaa, 0x0a, 0, 0, 0, 1, 0, 0xfe, 0xff, 0xff, 0xff, 0xff, 0xff, 0xff, 0xff}},
	}
	for _, r := range rows {
		c := made(t, r.log)
		fill(t, c, r.row)
		b := c.Bytes()
		if len(b) != c.Size()*c.Width() || !bytes.HasPrefix(b, r.want) {
			t.Errorf("Bytes of %v in 2^%d cells: %d bytes, % x", r.row, r.log, len(b), b[:min(len(b), len(r.want))])
		}
	}
}

func TestP6_3BytesAndAllOfEachWidth(t *testing.T) {
	draw := rand.New(rand.NewSource(63))
	for _, s := range shapes {
		c := made(t, s.log)
		row := drawn(draw, s.size, s.room)
		fill(t, c, row)
		if !bytes.Equal(c.Bytes(), laid(row, s.width)) {
			t.Errorf("Bytes of 2^%d cells", s.log)
		}
		if !slices.Equal(told(t, c), row) {
			t.Errorf("All of 2^%d cells", s.log)
		}
	}
}

func TestP6_3AllThatIsLeft(t *testing.T) {
	for _, log := range []int{3, 8, 16} {
		c := made(t, log)
		c.Set(0, 2)
		last := c.Size() - 1
		c.Set(last, 3)
		all := c.All()
		for _, stop := range []int{0, 1, last, 0} {
			n, v := -1, 0
			for n, v = range all {
				if n == stop {
					break
				}
			}
			want, _ := c.Get(stop)
			if n != stop || v != want {
				t.Errorf("All of 2^%d cells, left at %d: cell %d holds %d, want %d", log, stop, n, v, want)
			}
		}
		n := 0
		for i := range all {
			for j := range all { // within itself
				if i != n || j != 0 {
					t.Fatalf("All of 2^%d cells, gone through again: %d, %d", log, i, j)
				}
				break
			}
			n++
		}
		if n != c.Size() {
			t.Errorf("All of 2^%d cells, gone through again: %d cells", log, n)
		}
	}
}

func TestP6_4Load(t *testing.T) {
	draw := rand.New(rand.NewSource(64))
	for _, s := range shapes {
		row := drawn(draw, s.size, s.room)
		b := laid(row, s.width)
		c, e := cells.Load(s.log, b)
		if e != api.OK || c == nil {
			t.Fatalf("Load of 2^%d cells: error %d", s.log, e)
		}
		if c.Log() != s.log || c.Size() != s.size || c.Room() != s.room || c.Width() != s.width {
			t.Errorf("Load of 2^%d cells: log %d, size %d, room %d, width %d", s.log, c.Log(), c.Size(), c.Room(), c.Width())
		}
		if !slices.Equal(held(t, c), row) || !bytes.Equal(c.Bytes(), b) {
			t.Errorf("Load of 2^%d cells: other cells", s.log)
		}
		if e := c.Set(s.size-1, s.room-1); e != api.OK {
			t.Errorf("Set behind Load of 2^%d cells: error %d", s.log, e)
		}
	}
}

func TestP6_4BytesOfNoCells(t *testing.T) {
	refused := func(log int, b []byte, want api.Errno) {
		t.Helper()
		if c, e := cells.Load(log, b); c != nil || e != want {
			t.Errorf("Load(%d, %d bytes): got %v, error %d, want %d", log, len(b), c, e, want)
		}
	}
	for _, log := range badLogs {
		refused(log, nil, api.ErrArg)
		refused(log, []byte{}, api.ErrArg)
		refused(log, make([]byte, 1), api.ErrArg)
		refused(log, make([]byte, 8), api.ErrArg)
	}
	for _, s := range shapes {
		long := s.size * s.width
		// A wrong length is told ahead of what a cell may not hold.
		for _, fill := range []byte{0, 0x80} {
			b := bytes.Repeat([]byte{fill}, 2*long)
			for _, n := range []int{0, 1, long / 2, long - 1, long + 1, 2 * long} {
				refused(s.log, b[:n], api.ErrText)
			}
			if s.width > 1 {
				refused(s.log, b[:s.size], api.ErrText)
			}
		}
		refused(s.log, nil, api.ErrText)
	}
}

func TestP6_4ValuesOfNoCell(t *testing.T) {
	for _, s := range shapes {
		lowest := -1 << (8*s.width - 1)
		for _, v := range []int{-3, -4, s.room, s.room + 1, lowest, lowest + 1, -1 - lowest, -2 - lowest} {
			for _, i := range []int{0, s.size / 2, s.size - 1} {
				row := slices.Repeat([]int{api.Empty}, s.size)
				row[i] = v
				if c, e := cells.Load(s.log, laid(row, s.width)); c != nil || e != api.ErrArg {
					t.Errorf("Load of 2^%d cells with %d in cell %d: got %v, error %d", s.log, v, i, c, e)
				}
			}
		}
	}
}

func TestP6_4EachByteOfNarrowCells(t *testing.T) {
	for v := range 256 {
		b := bytes.Repeat([]byte{byte(v)}, 128)
		want := api.ErrArg
		if v < 85 || v >= 254 {
			want = api.OK
		}
		if c, e := cells.Load(7, b); e != want || (c == nil) != (e != api.OK) {
			t.Errorf("Load(7, bytes %02x): error %d, want %d", v, e, want)
		}
	}
}

func TestP6_5None(t *testing.T) {
	ends := []int{-1, 0, 1, 7, math.MinInt, math.MaxInt}
	for name, c := range map[string]*cells.Cells{"nil": nil, "zero": {}} {
		if c.Log() != 0 || c.Size() != 0 || c.Room() != 0 || c.Width() != 0 {
			t.Errorf("%s Cells: log %d, size %d, room %d, width %d", name, c.Log(), c.Size(), c.Room(), c.Width())
		}
		for _, i := range ends {
			if v, e := c.Get(i); v != 0 || e != api.ErrArg {
				t.Errorf("%s Cells: Get(%d): got %d, error %d", name, i, v, e)
			}
			for _, v := range append([]int{api.Empty, api.Dead}, ends...) {
				if e := c.Set(i, v); e != api.ErrArg {
					t.Errorf("%s Cells: Set(%d, %d): error %d", name, i, v, e)
				}
			}
		}
		if b := c.Bytes(); len(b) != 0 {
			t.Errorf("%s Cells: Bytes: % x", name, b)
		}
		if row := told(t, c); len(row) != 0 {
			t.Errorf("%s Cells: All: %v", name, row)
		}
		if d, e := cells.Load(c.Log(), c.Bytes()); d != nil || e != api.ErrArg {
			t.Errorf("%s Cells: Load(Log(), Bytes()): got %v, error %d", name, d, e)
		}
	}
}

func TestP6_6LoadOfBytes(t *testing.T) {
	draw := rand.New(rand.NewSource(66))
	for _, s := range shapes {
		c := made(t, s.log)
		for range 2 { // all empty, then not
			d, e := cells.Load(c.Log(), c.Bytes())
			if e != api.OK || d.Log() != s.log || !slices.Equal(held(t, d), held(t, c)) {
				t.Fatalf("Load(Log(), Bytes()) of 2^%d cells: error %d, or other cells", s.log, e)
			}
			fill(t, c, drawn(draw, s.size, s.room))
		}
	}
}

func TestP6_6TheGreatestEntryFits(t *testing.T) {
	for _, s := range shapes {
		c := made(t, s.log)
		fill(t, c, []int{s.room - 1, api.Empty, api.Dead})
		d, e := cells.Load(s.log, c.Bytes())
		if e != api.OK {
			t.Fatalf("Load(%d, Bytes()): error %d", s.log, e)
		}
		for i, want := range []int{s.room - 1, api.Empty, api.Dead} {
			for _, x := range []*cells.Cells{c, d} {
				if v, _ := x.Get(i); v != want {
					t.Errorf("cell %d of 2^%d cells: got %d, want %d", i, s.log, v, want)
				}
			}
		}
	}
}

func TestP6_6AllTellsWhatThereWas(t *testing.T) {
	for _, log := range []int{3, 7, 8, 15, 16} {
		c := made(t, log)
		c.Set(0, 1)
		before := held(t, c)
		all := c.All()
		c.Set(0, 2) // ahead of its beginning
		for range 2 {
			var row []int
			for i, v := range all {
				c.Set(i, 4) // at the cell
				if i+1 < c.Size() {
					c.Set(i+1, 3) // ahead of it
				}
				row = append(row, v)
			}
			if !slices.Equal(row, before) {
				t.Errorf("All of 2^%d cells tells what was set behind it", log)
			}
		}
		if now := told(t, c); !slices.Equal(now, slices.Repeat([]int{4}, c.Size())) {
			t.Errorf("2^%d cells were not set while All went through them", log)
		}
	}
}

func TestP6_7MemoryOfItsOwn(t *testing.T) {
	for _, s := range shapes {
		row := slices.Repeat([]int{api.Dead}, s.size)
		long := s.size * s.width
		given := append(laid(row, s.width), bytes.Repeat([]byte{7}, 16)...)
		kept := slices.Clone(given)
		c, e := cells.Load(s.log, given[:long])
		if e != api.OK {
			t.Fatalf("Load(%d): error %d", s.log, e)
		}
		c.Set(0, 0)
		c.Set(s.size-1, 0)
		if !bytes.Equal(given, kept) {
			t.Errorf("Load(%d) changed what was handed in, or it is changed behind it", s.log)
		}
		before := held(t, c)
		for i := range given {
			given[i] = 1
		}
		if !slices.Equal(held(t, c), before) {
			t.Errorf("Load(%d) kept what was handed in", s.log)
		}
		a, b := c.Bytes(), c.Bytes()
		for i := range a {
			a[i] = 1
		}
		if !slices.Equal(held(t, c), before) || !bytes.Equal(b, laid(before, s.width)) || !bytes.Equal(c.Bytes(), b) {
			t.Errorf("Bytes() of 2^%d cells shares its memory", s.log)
		}
		c.Set(1, 1)
		if !bytes.Equal(b, laid(before, s.width)) {
			t.Errorf("Bytes() of 2^%d cells was changed by Set", s.log)
		}
	}
}

func TestExamplesOfChapter6(t *testing.T) {
	c := made(t, 3)
	if c.Size() != 8 || c.Room() != 5 || c.Width() != 1 {
		t.Errorf("New(3): %d, %d, %d", c.Size(), c.Room(), c.Width())
	}
	if v, e := c.Get(0); v != api.Empty || e != api.OK {
		t.Errorf("Get(0): %d, error %d", v, e)
	}
	for _, row := range []struct {
		i, v int
		want api.Errno
	}{{0, 5, api.ErrArg}, {0, 4, api.OK}, {8, 0, api.ErrIndex}, {1, api.Dead, api.OK}} {
		if e := c.Set(row.i, row.v); e != row.want {
			t.Errorf("Set(%d, %d): error %d, want %d", row.i, row.v, e, row.want)
		}
	}
	if b := c.Bytes(); !bytes.Equal(b, []byte{0x04, 0xfe, 0xff, 0xff, 0xff, 0xff, 0xff, 0xff}) {
		t.Errorf("Bytes(): % x", b)
	}
	if c := made(t, 7); c.Room() != 85 || c.Width() != 1 {
		t.Errorf("New(7): %d, %d", c.Room(), c.Width())
	}
	if w := made(t, 8).Width(); w != 2 {
		t.Errorf("New(8): width %d", w)
	}
	if w := made(t, 16).Width(); w != 4 {
		t.Errorf("New(16): width %d", w)
	}
	for _, log := range []int{2, 21} {
		if c, e := cells.New(log); c != nil || e != api.ErrArg {
			t.Errorf("New(%d): %v, error %d", log, c, e)
		}
	}
	if c, e := cells.Load(3, bytes.Repeat([]byte{5}, 8)); c != nil || e != api.ErrArg {
		t.Errorf("Load(3, eight bytes 05): %v, error %d", c, e)
	}
	if c, e := cells.Load(3, make([]byte, 7)); c != nil || e != api.ErrText {
		t.Errorf("Load(3, seven bytes): %v, error %d", c, e)
	}
}

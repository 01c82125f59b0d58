package cells

import "slices"

const (
	narrowLog = 7  // up to here each entry's number fits a byte with a sign
	middleLog = 15 // and up to here two bytes
	byteBits  = 8
)

// row is cells of one width, whichever it is. What it is given to hold fits.
type row interface {
	get(i int) int
	set(i, v int)
	bytes() []byte
	load(b []byte)
	copied() row
	each(yield func(i, v int) bool)
}

// signed is a number of one of the three widths.
type signed interface {
	int8 | int16 | int32
}

// rowOf is a row of numbers of one width.
type rowOf[N signed] struct {
	width int // bytes of an N
	held  []N
}

// newRow is the row of a table of that logarithm, each cell 0.
func newRow(log int) row {
	switch w := width(log); w {
	case 1:
		return &rowOf[int8]{w, make([]int8, size(log))}
	case 2:
		return &rowOf[int16]{w, make([]int16, size(log))}
	default:
		return &rowOf[int32]{w, make([]int32, size(log))}
	}
}

// width is how many bytes a cell of a table of that logarithm has.
func width(log int) int {
	switch {
	case log <= narrowLog:
		return 1
	case log <= middleLog:
		return 2
	}
	return 4
}

func (r *rowOf[N]) get(i int) int {
	return int(r.held[i])
}

func (r *rowOf[N]) set(i, v int) {
	r.held[i] = N(v)
}

// bytes lays each number's lowest byte first, each cut off by a conversion.
func (r *rowOf[N]) bytes() []byte {
	b := make([]byte, 0, len(r.held)*r.width)
	for _, n := range r.held {
		for k := range r.width {
			b = append(b, byte(n>>(k*byteBits)))
		}
	}
	return b
}

// load takes each cell of such bytes. The highest byte of a number brings its sign: the conversion takes its bits as they are.
func (r *rowOf[N]) load(b []byte) {
	for i := range r.held {
		var n N
		for k := range r.width {
			n |= N(b[i*r.width+k]) << (k * byteBits)
		}
		r.held[i] = n
	}
}

func (r *rowOf[N]) copied() row {
	return &rowOf[N]{r.width, slices.Clone(r.held)}
}

func (r *rowOf[N]) each(yield func(i, v int) bool) {
	for i, n := range r.held {
		if !yield(i, int(n)) {
			return
		}
	}
}

package grid_test

import (
	"math"
	"strconv"
	"testing"

	"wellspring/api"
	"wellspring/field"
	"wellspring/grid"
	"wellspring/mix"
)

// said is all that a grid tells, and the error beside it; its rows are told as one text, each with its end marked.
type said struct {
	height, width int
	rows          string
	err           api.Errno
}

func of(g grid.Grid, err api.Errno) said {
	return said{g.Height(), g.Width(), text(g.Rows()), err}
}

// text: the rows, byte by byte in base ten.
func text(rows [][]byte) string {
	var l []byte
	for _, row := range rows {
		for _, b := range row {
			l = append(strconv.AppendInt(l, int64(b), 10), ' ')
		}
		l = append(l, ';')
	}
	return string(l)
}

// made: the grid of rows that must make one.
func made(t *testing.T, width int, rows ...[]byte) grid.Grid {
	t.Helper()
	g, err := grid.Of(width, rows...)
	if err != api.OK {
		t.Fatalf("Of(%d) of %d rows: error %d", width, len(rows), err)
	}
	return g
}

// unit: n rows of n bytes, 1 where both places are one.
func unit(n int) [][]byte {
	rows := blank(n, n)
	for i := range rows {
		rows[i][i] = 1
	}
	return rows
}

// blank: rows of noughts.
func blank(height, width int) [][]byte {
	rows := make([][]byte, height)
	for i := range rows {
		rows[i] = make([]byte, width)
	}
	return rows
}

// drawn: rows of bytes of a seed, each modulo values, so that few values make few independent rows.
func drawn(seed uint64, height, width, values int) [][]byte {
	m := mix.New(seed)
	rows := blank(height, width)
	for i := range rows {
		for j := range rows[i] {
			rows[i][j] = byte(m.Next() % uint64(values))
		}
	}
	return rows
}

// products are those of all pairs of bytes, by the field alone.
var products = func() (l [256][256]byte) {
	for a := range 256 {
		for b := range 256 {
			l[a][b] = field.Mul(byte(a), byte(b))
		}
	}
	return l
}()

// product: byte by byte.
func product(a, b [][]byte, width int) [][]byte {
	rows := blank(len(a), width)
	for i, row := range a {
		for j := range width {
			for k, c := range row {
				rows[i][j] ^= products[c][b[k][j]]
			}
		}
	}
	return rows
}

// powers: row i has the powers of i, from the 0th on. Of up to 256 of these rows as many are independent as there are, or as they are wide.
func powers(height, width int) [][]byte {
	rows := blank(height, width)
	for i := range rows {
		for j := range rows[i] {
			rows[i][j], _ = field.Pow(byte(i), j)
		}
	}
	return rows
}

// without: all but one, in new memory.
func without[T any](l []T, i int) []T {
	return append(append([]T{}, l[:i]...), l[i+1:]...)
}

// determinant: by the first row; to add is to take away, so that no sign turns.
func determinant(rows [][]byte) byte {
	if len(rows) == 0 {
		return 1
	}
	sum := byte(0)
	for j, c := range rows[0] {
		var rest [][]byte
		for _, row := range rows[1:] {
			rest = append(rest, without(row, j))
		}
		sum = field.Add(sum, field.Mul(c, determinant(rest)))
	}
	return sum
}

// rank: the height of the greatest square of which the determinant isn't 0, rows and columns left out one by one: another way than the program's.
func rank(rows [][]byte, width int) int {
	best := 0
	for chosen := range 1 << len(rows) {
		for columns := range 1 << width {
			var square [][]byte
			for i, row := range rows {
				if chosen>>i&1 == 1 {
					square = append(square, picked(row, columns))
				}
			}
			if len(square) > best && len(square[0]) == len(square) && determinant(square) != 0 {
				best = len(square)
			}
		}
	}
	return best
}

// picked: the bytes at the places of the bits.
func picked(row []byte, columns int) []byte {
	l := []byte{}
	for j, c := range row {
		if columns>>j&1 == 1 {
			l = append(l, c)
		}
	}
	return l
}

// small: f is asked of many grids of up to 4 rows of up to 4 bytes, of all ranks.
func small(f func(rows [][]byte, width int)) {
	seed := uint64(0)
	for height := range 5 {
		for width := range 5 {
			for _, values := range []int{1, 2, 3, 256} {
				for range 12 {
					seed++
					f(drawn(seed, height, width, values), width)
				}
			}
			if height > 1 { // the last one a combination of two others
				seed++
				rows := drawn(seed, height, width, 256)
				for j := range width {
					rows[height-1][j] = field.Add(field.Mul(7, rows[0][j]), field.Mul(200, rows[height-2][j]))
				}
				f(rows, width)
			}
		}
	}
}

func TestOf(t *testing.T) { // P7.1
	small(func(rows [][]byte, width int) {
		if got := of(grid.Of(width, rows...)); got != (said{len(rows), width, text(rows), api.OK}) {
			t.Errorf("Of(%d) of %v: %v", width, rows, got)
		}
	})
	if got := of(grid.Of(0, nil, []byte{}, nil)); got != (said{3, 0, ";;;", api.OK}) {
		t.Errorf("Of three rows without bytes: %v", got)
	}
}

func TestOfSizesAtTheBound(t *testing.T) { // P7.1
	for _, c := range []struct {
		height, width int
		err           api.Errno
	}{
		{0, 0, api.OK},
		{0, 1, api.OK},
		{0, api.MaxCells, api.OK},
		{api.MaxCells, 0, api.OK},
		{1, api.MaxCells, api.OK},
		{api.MaxCells, 1, api.OK},
		{256, 256, api.OK},
		{2, 32768, api.OK},
		{3, 21845, api.OK},
		{api.MaxCells + 1, 0, api.ErrMany},
		{api.MaxCells + 1, 1, api.ErrMany},
		{api.MaxCells, 2, api.ErrMany},
		{2, api.MaxCells, api.ErrMany},
		{2, 32769, api.ErrMany},
		{3, 21846, api.ErrMany},
		{257, 256, api.ErrMany},
		{256, 257, api.ErrMany},
		{0, api.MaxCells + 1, api.ErrRange},
		{1, api.MaxCells + 1, api.ErrRange},
	} {
		g, err := grid.Of(c.width, blank(c.height, c.width)...)
		height, width, rows := c.height, c.width, c.height
		if c.err != api.OK {
			height, width, rows = 0, 0, 0
		}
		if err != c.err || g.Height() != height || g.Width() != width || len(g.Rows()) != rows {
			t.Errorf("Of %d rows of %d bytes: %d rows of %d, error %d", c.height, c.width, g.Height(), g.Width(), err)
		}
	}
}

func TestOfWrongSizes(t *testing.T) { // P7.1: of several errors the one named first
	one, none := []byte{1}, []byte{}
	for _, c := range []struct {
		width int
		rows  [][]byte
		err   api.Errno
	}{
		{-1, nil, api.ErrRange},
		{-1, [][]byte{one}, api.ErrRange},
		{math.MinInt, nil, api.ErrRange},
		{math.MinInt, [][]byte{none}, api.ErrRange},
		{math.MaxInt, nil, api.ErrRange},
		{math.MaxInt, [][]byte{one, one}, api.ErrRange},
		{-1, make([][]byte, api.MaxCells+1), api.ErrRange},
		{api.MaxCells + 1, make([][]byte, api.MaxCells+1), api.ErrRange},
		{api.MaxCells, make([][]byte, api.MaxCells), api.ErrMany}, // 2^32 as a product
		{5, make([][]byte, api.MaxCells+1), api.ErrMany},
		{0, append(make([][]byte, api.MaxCells), one), api.ErrMany},
		{api.MaxCells, [][]byte{one, none}, api.ErrMany},
		{1, [][]byte{none}, api.ErrSize},
		{1, [][]byte{nil}, api.ErrSize},
		{0, [][]byte{one}, api.ErrSize},
		{1, [][]byte{one, {1, 2}}, api.ErrSize},
		{1, [][]byte{{1, 2}, one}, api.ErrSize},
		{2, [][]byte{one, {1, 2, 3}}, api.ErrSize}, // four bytes in all
		{3, [][]byte{{1, 2, 3}, {1, 2, 3}, {1, 2}}, api.ErrSize},
	} {
		if got := of(grid.Of(c.width, c.rows...)); got != (said{err: c.err}) {
			t.Errorf("Of(%d) of %d rows: %v, wanted error %d", c.width, len(c.rows), got, c.err)
		}
	}
}

func TestUnit(t *testing.T) { // P7.1
	for _, n := range []int{0, 1, 2, 3, 17, 255, 256} {
		if got := of(grid.Unit(n)); got != (said{n, n, text(unit(n)), api.OK}) {
			t.Errorf("Unit(%d): %d rows of %d, error %d", n, got.height, got.width, got.err)
		}
	}
	for _, n := range []int{-1, -256, 257, 65536, math.MinInt, math.MaxInt} {
		if got := of(grid.Unit(n)); got != (said{err: api.ErrRange}) {
			t.Errorf("Unit(%d): %v", n, got)
		}
	}
}

func TestSame(t *testing.T) { // P7.1
	l := []grid.Grid{
		{},
		made(t, 1), made(t, 2),
		made(t, 0, nil), made(t, 0, nil, nil),
		made(t, 1, []byte{0}), made(t, 1, []byte{1}), made(t, 1, []byte{0}, []byte{0}),
		made(t, 2, []byte{0, 0}), made(t, 2, []byte{1, 2}), made(t, 2, []byte{2, 1}),
		made(t, 2, []byte{1, 2}, []byte{3, 4}), made(t, 2, []byte{3, 4}, []byte{1, 2}),
		made(t, 4, []byte{1, 2, 3, 4}), made(t, 1, []byte{1}, []byte{2}, []byte{3}, []byte{4}),
		made(t, 2, []byte{1, 2}, []byte{3, 5}),
	}
	for i, a := range l {
		for j, b := range l {
			if got := grid.Same(a, b); got != (i == j) {
				t.Errorf("Same of %v and %v: %t", a.Rows(), b.Rows(), got)
			}
		}
		if again := made(t, a.Width(), a.Rows()...); !grid.Same(a, again) {
			t.Errorf("%v isn't the same, made again", a.Rows())
		}
	}
	if !grid.Same(grid.Grid{}, made(t, 0)) {
		t.Error("the zero grid isn't that of no rows without bytes")
	}
}

func TestZeroGrid(t *testing.T) { // P7.1, P7.2
	var z grid.Grid
	if of(z, api.OK) != (said{}) || z.Rank() != 0 {
		t.Errorf("the zero grid: %v, its rank %d", z, z.Rank())
	}
	if got := of(z.Turned(), api.OK); got != (said{}) {
		t.Errorf("turned: %v", got)
	}
	if got := of(z.Mul(z)); got != (said{}) {
		t.Errorf("times itself: %v", got)
	}
	if got := of(z.Mul(made(t, 3))); got != (said{width: 3}) {
		t.Errorf("times no rows of three bytes: %v", got)
	}
	if got := of(z.Mul(made(t, 3, []byte{1, 2, 3}))); got != (said{err: api.ErrSize}) {
		t.Errorf("times a row: %v", got)
	}
	if got := of(z.Inverse()); got != (said{}) {
		t.Errorf("its inverse: %v", got)
	}
}

func TestRank(t *testing.T) { // P7.2
	if got := made(t, 2, []byte{1, 2}, []byte{2, 4}).Rank(); got != 1 {
		t.Errorf("of 1 2 and 2 4: %d", got)
	}
	if got := made(t, 2, []byte{1, 2}, []byte{2, 5}).Rank(); got != 2 {
		t.Errorf("of 1 2 and 2 5: %d", got)
	}
	small(func(rows [][]byte, width int) {
		if got, want := made(t, width, rows...).Rank(), rank(rows, width); got != want {
			t.Errorf("of %v: %d, wanted %d", rows, got, want)
		}
	})
}

func TestRankOfGreatGrids(t *testing.T) { // P7.2
	for _, c := range []struct {
		rows  [][]byte
		width int
		want  int
	}{
		{powers(256, 256), 256, 256},
		{powers(255, 257), 257, 255},
		{powers(256, 100), 100, 100},
		{product(powers(90, 11), powers(11, 120), 120), 120, 11},
		{product(powers(130, 64), powers(64, 64), 64), 64, 64},
		{blank(256, 256), 256, 0},
		{blank(0, api.MaxCells), api.MaxCells, 0},
		{blank(api.MaxCells, 0), 0, 0},
		{blank(api.MaxCells, 1), 1, 0},
		{append(blank(api.MaxCells-1, 1), []byte{9}), 1, 1},
		{drawn(1, api.MaxCells, 1, 256), 1, 1},
		{drawn(2, 2, 32768, 256), 32768, 2},
		{[][]byte{append(make([]byte, 32767), 1), append(make([]byte, 32767), 77)}, 32768, 1},
	} {
		if got := made(t, c.width, c.rows...).Rank(); got != c.want {
			t.Errorf("of %d rows of %d bytes: %d, wanted %d", len(c.rows), c.width, got, c.want)
		}
	}
}

func TestTurned(t *testing.T) { // P7.2
	small(func(rows [][]byte, width int) {
		want := blank(width, len(rows))
		for i, row := range rows {
			for j, b := range row {
				want[j][i] = b
			}
		}
		if got := of(made(t, width, rows...).Turned(), api.OK); got != (said{width, len(rows), text(want), api.OK}) {
			t.Errorf("%v turned: %v", rows, got)
		}
	})
	for _, c := range []struct{ height, width int }{{0, 1}, {0, 7}, {0, api.MaxCells}, {1, 0}, {7, 0}, {api.MaxCells, 0}, {1, api.MaxCells}, {api.MaxCells, 1}} {
		g := made(t, c.width, blank(c.height, c.width)...)
		turned := g.Turned()
		if turned.Height() != c.width || turned.Width() != c.height || len(turned.Rows()) != c.width || !grid.Same(turned.Turned(), g) {
			t.Errorf("%v turned: %d rows of %d", c, turned.Height(), turned.Width())
		}
	}
}

func TestMul(t *testing.T) { // P7.2
	seed := uint64(1000)
	for _, height := range []int{0, 1, 2, 5} {
		for _, middle := range []int{0, 1, 3, 20} {
			for _, width := range []int{0, 1, 4, 33} {
				seed++
				a, b := drawn(seed, height, middle, 256), drawn(seed+5000, middle, width, 256)
				want := said{height, width, text(product(a, b, width)), api.OK}
				if got := of(made(t, middle, a...).Mul(made(t, width, b...))); got != want {
					t.Errorf("%v times %v: %v, wanted %v", a, b, got, want)
				}
			}
		}
	}
}

func TestMulAtTheBound(t *testing.T) { // P7.2
	for _, c := range []struct {
		height, middle, width int
		err                   api.Errno
	}{
		{256, 256, 256, api.OK},
		{1, 1, api.MaxCells, api.OK},
		{api.MaxCells, 1, 1, api.OK},
		{1, api.MaxCells, 1, api.OK},
		{api.MaxCells, 0, 1, api.OK},
		{api.MaxCells, 0, 0, api.OK},
		{0, 0, api.MaxCells, api.OK},
		{2, 0, 32768, api.OK},
		{2, 1, 32769, api.ErrMany},
		{257, 1, 256, api.ErrMany},
		{api.MaxCells, 0, 2, api.ErrMany},
		{api.MaxCells, 0, api.MaxCells, api.ErrMany},
	} {
		a, b := drawn(3, c.height, c.middle, 256), drawn(4, c.middle, c.width, 256)
		want := said{c.height, c.width, "", api.OK}
		if c.err != api.OK {
			want = said{err: c.err}
		} else {
			want.rows = text(product(a, b, c.width))
		}
		if got := of(made(t, c.middle, a...).Mul(made(t, c.width, b...))); got != want {
			t.Errorf("%v: %d rows of %d, error %d", c, got.height, got.width, got.err)
		}
	}
}

func TestMulOfUnlikeSizes(t *testing.T) { // P7.2: ErrSize is looked for ahead of ErrMany
	for _, c := range []struct{ height, width, otherHeight, otherWidth int }{
		{1, 1, 0, 1}, {1, 0, 1, 1}, {2, 2, 1, 2}, {2, 3, 2, 3}, {0, 1, 0, 1}, {0, 0, 1, 0},
		{api.MaxCells, 1, 0, api.MaxCells}, {api.MaxCells, 0, 1, api.MaxCells},
	} {
		a, b := made(t, c.width, blank(c.height, c.width)...), made(t, c.otherWidth, blank(c.otherHeight, c.otherWidth)...)
		if got := of(a.Mul(b)); got != (said{err: api.ErrSize}) {
			t.Errorf("%v: %v", c, got)
		}
	}
}

func TestInverse(t *testing.T) { // P7.2
	small(func(rows [][]byte, width int) {
		g := made(t, width, rows...)
		inverse, err := g.Inverse()
		switch {
		case width != len(rows):
			if of(inverse, err) != (said{err: api.ErrSize}) {
				t.Errorf("of %v: %v", rows, of(inverse, err))
			}
		case determinant(rows) == 0:
			if of(inverse, err) != (said{err: api.ErrRank}) {
				t.Errorf("of %v: %v", rows, of(inverse, err))
			}
		default:
			if err != api.OK {
				t.Fatalf("of %v: error %d", rows, err)
			}
			checkInverse(t, rows, inverse)
		}
	})
	checkInverse(t, nil, made(t, 0))
}

// checkInverse: the product is unit, from either side.
func checkInverse(t *testing.T, rows [][]byte, inverse grid.Grid) {
	t.Helper()
	n := len(rows)
	if inverse.Height() != n || inverse.Width() != n {
		t.Fatalf("the inverse of %d rows: %d rows of %d", n, inverse.Height(), inverse.Width())
	}
	if text(product(rows, inverse.Rows(), n)) != text(unit(n)) || text(product(inverse.Rows(), rows, n)) != text(unit(n)) {
		t.Errorf("%v times %v isn't unit", rows, inverse.Rows())
	}
}

func TestInverseAtTheBound(t *testing.T) { // P7.2
	rows := powers(256, 256)
	inverse, err := made(t, 256, rows...).Inverse()
	if err != api.OK {
		t.Fatalf("of 256 rows of powers: error %d", err)
	}
	checkInverse(t, rows, inverse)
	rows[255] = append([]byte{}, rows[7]...)
	if got := of(made(t, 256, rows...).Inverse()); got != (said{err: api.ErrRank}) {
		t.Errorf("of 256 rows, two of them alike: error %d", got.err)
	}
}

func TestNoInverse(t *testing.T) { // P7.2: ErrSize is looked for ahead of ErrRank
	for _, c := range []struct {
		rows  [][]byte
		width int
		err   api.Errno
	}{
		{nil, 1, api.ErrSize},
		{[][]byte{nil}, 0, api.ErrSize},
		{blank(2, 3), 3, api.ErrSize},
		{blank(3, 2), 2, api.ErrSize},
		{blank(1, api.MaxCells), api.MaxCells, api.ErrSize},
		{blank(api.MaxCells, 0), 0, api.ErrSize},
		{blank(1, 1), 1, api.ErrRank},
		{blank(3, 3), 3, api.ErrRank},
		{[][]byte{{1, 2}, {2, 4}}, 2, api.ErrRank},
		{[][]byte{{0, 1}, {0, 0}}, 2, api.ErrRank},
		{[][]byte{{0, 5}, {0, 7}}, 2, api.ErrRank},
		{[][]byte{{1, 0, 3}, {0, 1, 5}, {1, 1, 6}}, 3, api.ErrRank},
	} {
		if got := of(made(t, c.width, c.rows...).Inverse()); got != (said{err: c.err}) {
			t.Errorf("of %d rows of %d bytes: %v, wanted error %d", len(c.rows), c.width, got, c.err)
		}
	}
	for lead := 1; lead < 256; lead++ { // rows that stand the other way round have one
		rows := [][]byte{{0, byte(lead)}, {7, 3}}
		inverse, err := made(t, 2, rows...).Inverse()
		if err != api.OK {
			t.Fatalf("of %v: error %d", rows, err)
		}
		checkInverse(t, rows, inverse)
	}
}

func TestRanks(t *testing.T) { // P7.3
	small(func(rows [][]byte, width int) {
		g := made(t, width, rows...)
		if g.Rank() != g.Turned().Rank() {
			t.Errorf("of %v: %d, turned %d", rows, g.Rank(), g.Turned().Rank())
		}
		other := made(t, 3, drawn(uint64(len(rows)), width, 3, 2)...)
		both, err := g.Mul(other)
		if err != api.OK || both.Rank() > min(g.Rank(), other.Rank()) {
			t.Errorf("of %v, %d; of %v, %d; of the product %d", rows, g.Rank(), other.Rows(), other.Rank(), both.Rank())
		}
	})
}

func TestThereAndBack(t *testing.T) { // P7.3: times a grid, and times its inverse
	for seed := range uint64(40) {
		n := 1 + int(seed%20)
		b := made(t, n, drawn(seed, n, n, 256)...)
		inverse, err := b.Inverse()
		if err == api.ErrRank {
			continue
		}
		g := made(t, n, drawn(seed+100, 1+int(seed%7), n, 256)...)
		there, _ := g.Mul(b)
		back, err := there.Mul(inverse)
		if err != api.OK || !grid.Same(back, g) {
			t.Errorf("%v, times %v, and its inverse: %v", g.Rows(), b.Rows(), back.Rows())
		}
	}
}

// turn: all bits of all bytes, spare room included.
func turn(l []byte) {
	l = l[:cap(l)]
	for i := range l {
		l[i] ^= 255
	}
}

func TestMemory(t *testing.T) { // a grid keeps nothing of what was handed in, and hands out nothing of its own
	whole := []byte{1, 2, 3, 4, 5, 6, 7}
	rows := [][]byte{whole[0:2], whole[3:5]}
	g := made(t, 2, rows...)
	if string(whole) != "\x01\x02\x03\x04\x05\x06\x07" || len(rows[0]) != 2 || &rows[1][0] != &whole[3] {
		t.Errorf("what was handed in was changed: %v", whole)
	}
	first := of(g, api.OK)
	turn(whole)
	rows[1] = nil
	if of(g, api.OK) != first {
		t.Error("the grid keeps the rows that were handed in")
	}
	out := g.Rows()
	for i, row := range out {
		again := text(out[1-i : 2-i])
		turn(row)
		_ = append(row, 99)
		if text(out[1-i:2-i]) != again {
			t.Error("the rows of one answer share memory")
		}
	}
	if of(g, api.OK) != first {
		t.Error("the grid shares its rows with its answer")
	}
}

func TestValues(t *testing.T) { // what is done with a grid leaves it as it was
	g, o := made(t, 2, []byte{1, 2}, []byte{2, 5}), made(t, 2, []byte{0, 9}, []byte{3, 0})
	first, second := of(g, api.OK), of(o, api.OK)
	for range 2 {
		g.Rank()
		g.Turned()
		g.Inverse()
		p, _ := g.Mul(o)
		for _, row := range p.Rows() {
			turn(row)
		}
		if of(g, api.OK) != first || of(o, api.OK) != second {
			t.Fatal("a grid was changed")
		}
	}
}

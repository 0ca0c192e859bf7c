package solve_test

import (
	"math"
	"slices"
	"strconv"
	"strings"
	"testing"

	"wellspring/api"
	"wellspring/field"
	"wellspring/grid"
	"wellspring/mix"
	"wellspring/nat"
	"wellspring/solve"
	"wellspring/vec"
)

// row: of bytes as texts.
func row(v, data string) vec.Row { return vec.Of(vec.Vec(v), []byte(data)) }

// text: rows, byte by byte in base ten, vector and data.
func text(rows ...vec.Row) string {
	var l []byte
	for _, r := range rows {
		for _, b := range r.Vec {
			l = append(strconv.AppendInt(l, int64(b), 10), ' ')
		}
		l = append(l, ": "...)
		for _, b := range r.Data {
			l = append(strconv.AppendInt(l, int64(b), 10), ' ')
		}
		l = append(l, ';')
	}
	return string(l)
}

// drawn: equations of a seed, whose bytes are modulo values, so that few values make few independent ones.
func drawn(seed uint64, count, k, size, values int) []vec.Row {
	m := mix.New(seed)
	rows := make([]vec.Row, count)
	for i := range rows {
		l := make([]byte, k+size)
		for j := range l {
			l[j] = byte(m.Next() % uint64(values))
		}
		rows[i] = vec.Of(l[:k], l[k:])
	}
	return rows
}

// products are those of all pairs of bytes, by the field alone.
var products = func() (l [256][256]byte) {
	for a := range 256 {
		for b := range 256 {
			l[a][b] = field.Mul(byte(a), byte(b))
		}
	}
	return l
}()

// combined: the equation of a vector that symbols solve, byte by byte, by the field alone.
func combined(v vec.Vec, size int, symbols [][]byte) vec.Row {
	data := make([]byte, size)
	for i, c := range v {
		for j, b := range symbols[i] {
			data[j] ^= products[c][b]
		}
	}
	return vec.Of(v, data)
}

// rank: that of the grid of all vectors and, with data, of what they carry beside them.
func rank(data bool, rows ...vec.Row) int {
	l := make([][]byte, len(rows))
	for i, r := range rows {
		l[i] = append([]byte{}, r.Vec...)
		if data {
			l[i] = append(l[i], r.Data...)
		}
	}
	if len(l) == 0 {
		return 0
	}
	g, err := grid.Of(len(l[0]), l...)
	if err != api.OK {
		panic("a grid that is none")
	}
	return g.Rank()
}

// verdict: by ranks: there is a solution just where what the vectors carry adds none. Another way than the program's.
func verdict(rows []vec.Row) solve.Verdict {
	for i := range rows {
		if rank(true, rows[:i+1]...) > rank(false, rows[:i+1]...) {
			return solve.Verdict{Rank: rank(false, rows...), Clash: i}
		}
	}
	return solve.Verdict{Rank: rank(false, rows...), Clash: -1}
}

// systems: f is asked of equations of many sizes, of which some are spare, and some clash.
func systems(f func(k, size int, rows []vec.Row)) {
	seed := uint64(0)
	for _, k := range []int{1, 2, 3, 5, 12} {
		for _, size := range []int{0, 1, 2, 7} {
			for _, values := range []int{1, 2, 3, 256} {
				for n := range 6 {
					seed++
					f(k, size, drawn(seed, n*(k+4)/5, k, size, values))
				}
			}
		}
	}
}

// solved: the same, but there are symbols that solve all of them.
func solved(f func(k, size int, symbols [][]byte, rows []vec.Row)) {
	systems(func(k, size int, rows []vec.Row) {
		symbols := make([][]byte, k)
		for i, r := range drawn(uint64(1000*k+10*size+len(rows)), k, 0, size, 256) {
			symbols[i] = r.Data
		}
		for i, r := range rows {
			rows[i] = combined(r.Vec, size, symbols)
		}
		f(k, size, symbols, rows)
	})
}

// judged: the verdict of equations of which there must be one.
func judged(t *testing.T, k, size int, rows ...vec.Row) solve.Verdict {
	t.Helper()
	v, err := solve.Judge(k, size, rows...)
	if err != api.OK {
		t.Fatalf("Judge(%d, %d) of %s: error %d", k, size, text(rows...), err)
	}
	return v
}

// counted: how many, as a text, and the error beside it.
func counted(k, size int, rows ...vec.Row) (string, api.Errno) {
	n, err := solve.Count(k, size, rows...)
	return n.Text(), err
}

// power: 256 to the n, as a text.
func power(n int) string { return "1" + strings.Repeat("00", n) }

// wantCount: that count, and no error.
func wantCount(t *testing.T, wanted string, k, size int, rows ...vec.Row) {
	t.Helper()
	if got, err := counted(k, size, rows...); got != wanted || err != api.OK {
		t.Errorf("Count(%d, %d) of %.200s: %.20s (%d digits), error %d, wanted %.20s (%d digits)", k, size, text(rows...), got, len(got), err, wanted, len(wanted))
	}
}

func TestExample(t *testing.T) { // P9.1, P9.2
	wantCount(t, "100", 2, 1, row("\x01\x01", "\x03"))
	if got := judged(t, 2, 1, row("\x01\x01", "\x03")); got != (solve.Verdict{Rank: 1, Clash: -1}) {
		t.Errorf("Judge: %v", got)
	}
}

func TestJudge(t *testing.T) { // P9.1
	systems(func(k, size int, rows []vec.Row) {
		if got, want := judged(t, k, size, rows...), verdict(rows); got != want {
			t.Fatalf("Judge(%d, %d) of %s: %v, wanted %v", k, size, text(rows...), got, want)
		}
	})
	solved(func(k, size int, _ [][]byte, rows []vec.Row) {
		want := solve.Verdict{Rank: rank(false, rows...), Clash: -1}
		if got := judged(t, k, size, rows...); got != want {
			t.Fatalf("Judge(%d, %d) of %s: %v, wanted %v", k, size, text(rows...), got, want)
		}
		if size == 0 || len(rows) == 0 {
			return
		}
		last := rows[len(rows)-1].Clone() // once more, but with other data
		last.Data[size-1] ^= 1
		want.Clash = len(rows)
		if got := judged(t, k, size, append(rows, last)...); got != want {
			t.Fatalf("Judge(%d, %d) of %s and %s: %v, wanted %v", k, size, text(rows...), text(last), got, want)
		}
	})
}

func TestJudgeSpareAndClash(t *testing.T) { // P9.1: the first one is told; what stands behind it counts for the rank
	a, twice, zero := row("\x01\x01", "\x03"), row("\x02\x02", "\x06"), row("\x00\x00", "\x00")
	b, never := row("\x01\x01", "\x04"), row("\x00\x00", "\x01")
	other := row("\x00\x07", "\x09")
	for _, c := range []struct {
		rows []vec.Row
		want solve.Verdict
	}{
		{nil, solve.Verdict{Rank: 0, Clash: -1}},
		{[]vec.Row{}, solve.Verdict{Rank: 0, Clash: -1}},
		{[]vec.Row{zero}, solve.Verdict{Rank: 0, Clash: -1}},
		{[]vec.Row{zero, zero, a, a, twice}, solve.Verdict{Rank: 1, Clash: -1}},
		{[]vec.Row{never}, solve.Verdict{Rank: 0, Clash: 0}},
		{[]vec.Row{zero, never, never}, solve.Verdict{Rank: 0, Clash: 1}},
		{[]vec.Row{a, a, b}, solve.Verdict{Rank: 1, Clash: 2}},
		{[]vec.Row{b, a}, solve.Verdict{Rank: 1, Clash: 1}},
		{[]vec.Row{a, b, b, a, never}, solve.Verdict{Rank: 1, Clash: 1}},
		{[]vec.Row{never, a, other}, solve.Verdict{Rank: 2, Clash: 0}},
		{[]vec.Row{a, b, other, zero}, solve.Verdict{Rank: 2, Clash: 1}},
		{[]vec.Row{a, other, twice, row("\x01\x00", "\x01")}, solve.Verdict{Rank: 2, Clash: 3}},
	} {
		if got := judged(t, 2, 1, c.rows...); got != c.want {
			t.Errorf("Judge of %s: %v, wanted %v", text(c.rows...), got, c.want)
		}
		if c.want.Clash >= 0 {
			wantCount(t, "0", 2, 1, c.rows...)
		}
	}
}

// lists: how many lists of symbols of two bytes in all hold for all equations, each list tried: another way than the program's.
func lists(k, size int, rows []vec.Row) int {
	count := 0
	for n := range 1 << 16 {
		whole := []byte{byte(n), byte(n >> 8)}
		symbols := [][]byte{whole}
		if k == 2 {
			symbols = [][]byte{whole[:1], whole[1:]}
		}
		if !slices.ContainsFunc(rows, func(r vec.Row) bool { return text(combined(r.Vec, size, symbols)) != text(r) }) {
			count++
		}
	}
	return count
}

func TestByAllLists(t *testing.T) { // P9.1, P9.2
	for i, rows := range [][]vec.Row{
		nil, drawn(1, 1, 2, 1, 256), drawn(2, 2, 2, 1, 256), {row("\x00\x05", "\x09"), row("\x00\x0A", "\x12")},
		{row("\x00\x05", "\x09"), row("\x00\x0A", "\x13")}, {row("\x00\x00", "\x00")}, {row("\x07\x09", "\x01"), row("\x00\x00", "\x02")},
	} {
		count := lists(2, 1, rows)
		wantCount(t, nat.Of(uint64(count)).Text(), 2, 1, rows...)
		if got := judged(t, 2, 1, rows...); got.Clash >= 0 != (count == 0) {
			t.Errorf("case %d: %v, of %d lists", i, got, count)
		}
	}
	for _, rows := range [][]vec.Row{nil, {row("\x09", "\x01\x02")}, {row("\x00", "\x00\x00")}, {row("\x00", "\x00\x02")}, {row("\x01", "\x01\x02"), row("\x02", "\x02\x05")}} {
		wantCount(t, nat.Of(uint64(lists(1, 2, rows))).Text(), 1, 2, rows...)
	}
}

func TestCount(t *testing.T) { // P9.2, P9.3
	systems(func(k, size int, rows []vec.Row) {
		v := verdict(rows)
		if v.Clash >= 0 {
			wantCount(t, "0", k, size, rows...)
			return
		}
		wantCount(t, power(size*(k-v.Rank)), k, size, rows...)
	})
}

func TestCountOfSolved(t *testing.T) { // P9.3
	solved(func(k, size int, symbols [][]byte, rows []vec.Row) {
		before := nat.Of(0)
		for n := range len(rows) + 1 {
			count, err := solve.Count(k, size, rows[:n]...)
			full := rank(false, rows[:n]...) == k
			if one := count.Text() == "1"; err != api.OK || count.Text() == "0" || one != (full || size == 0) {
				t.Fatalf("Count(%d, %d) of %s: %s, error %d", k, size, text(rows[:n]...), count.Text(), err)
			}
			if n > 0 && count.Cmp(before) > 0 {
				t.Fatalf("Count(%d, %d) of %s: one more equation made it %s", k, size, text(rows[:n]...), count.Text())
			}
			before = count
			if !solve.Holds(symbols, rows[:n]...) {
				t.Fatalf("%s don't hold", text(rows[:n]...))
			}
		}
	})
}

func TestCountNeverMore(t *testing.T) { // P9.3: where equations clash, too
	systems(func(k, size int, rows []vec.Row) {
		before, _ := nat.Parse(power(k * size))
		for n := range len(rows) + 1 {
			count, err := solve.Count(k, size, rows[:n]...)
			if err != api.OK || count.Cmp(before) > 0 {
				t.Fatalf("Count(%d, %d) of %s: %s, error %d", k, size, text(rows[:n]...), count.Text(), err)
			}
			before = count
		}
	})
}

// unit: the equation that tells the symbol at the place i, of noughts.
func unit(k, size, i int) vec.Row {
	v, _ := vec.Unit(k, i)
	return vec.Of(v, make([]byte, size))
}

func TestCountAtTheBound(t *testing.T) { // P9.2: 256 to the MaxNat is no number any more
	const k, size = api.MaxSymbols, api.MaxSymbol
	wantCount(t, power(api.MaxNat-1), 1, api.MaxNat-1)
	wantCount(t, power(api.MaxNat-1), k-1, 1)
	wantCount(t, power(api.MaxNat-1), k, 1, unit(k, 1, 7))
	wantCount(t, power(api.MaxNat-2), 2, api.MaxNat/2-1)
	wantCount(t, power(api.MaxNat/2), 2, api.MaxNat/2, unit(2, api.MaxNat/2, 1))
	wantCount(t, "1", k, 0)
	wantCount(t, "1", 1, size, unit(1, size, 0))
	wantCount(t, "1", 2, size, unit(2, size, 1), unit(2, size, 0))
	wantCount(t, "0", k, size, vec.Of(make(vec.Vec, k), append(make([]byte, size-1), 1))) // nothing is too great that clashes
	wantCount(t, "0", 2, size, row("\x01\x01", strings.Repeat("a", size)), row("\x01\x01", strings.Repeat("b", size)))
	for _, c := range []struct {
		k, size int
		rows    []vec.Row
	}{
		{k: 1, size: api.MaxNat}, {k: k, size: 1}, {k: 2, size: api.MaxNat / 2}, {k: 1, size: api.MaxNat + 1}, {k: 2, size: api.MaxNat/2 + 1},
		{k: 1, size: size}, {k: 2, size: size}, {k: 17, size: api.MaxNat}, {k: k, size: size}, {k: 16, size: api.MaxNat},
		{k: k, size: 1, rows: []vec.Row{vec.Of(make(vec.Vec, k), []byte{0})}},
		{k: 2, size: api.MaxNat, rows: []vec.Row{unit(2, api.MaxNat, 1)}},
		{k: 3, size: api.MaxNat / 2, rows: []vec.Row{unit(3, api.MaxNat/2, 0)}},
	} {
		if got, err := counted(c.k, c.size, c.rows...); got != "0" || err != api.ErrLong {
			t.Errorf("Count(%d, %d) behind %d: %.20s, error %d", c.k, c.size, len(c.rows), got, err)
		}
	}
}

func TestSizesAtTheBound(t *testing.T) { // P9.1
	for _, c := range []struct{ k, size int }{{1, 0}, {1, 1}, {2, 1}, {api.MaxSymbols, 0}, {1, api.MaxSymbol}, {api.MaxSymbols, api.MaxSymbol}} {
		if got := judged(t, c.k, c.size); got != (solve.Verdict{Rank: 0, Clash: -1}) {
			t.Errorf("Judge(%d, %d) of none: %v", c.k, c.size, got)
		}
		rows := drawn(3, 4, c.k, c.size, 256)
		want := solve.Verdict{Rank: min(c.k, 4), Clash: -1} // more cells than a grid can have
		if c.k < 4 && c.size > 0 {
			want.Clash = c.k
		}
		if got := judged(t, c.k, c.size, rows...); got != want {
			t.Errorf("Judge(%d, %d): %v, wanted %v", c.k, c.size, got, want)
		}
	}
	rows := make([]vec.Row, 40)
	for i := range rows {
		rows[i] = unit(api.MaxSymbols, 0, i*100)
	}
	if got := judged(t, api.MaxSymbols, 0, append(rows, rows...)...); got != (solve.Verdict{Rank: 40, Clash: -1}) {
		t.Errorf("Judge of 80 rows: %v", got)
	}
}

// refused: Judge and Count must answer that error.
func refused(t *testing.T, wanted api.Errno, k, size int, rows ...vec.Row) {
	t.Helper()
	if got, err := solve.Judge(k, size, rows...); got != (solve.Verdict{}) || err != wanted {
		t.Errorf("Judge(%d, %d) of %s: %v, error %d, wanted %d", k, size, text(rows...), got, err, wanted)
	}
	if got, err := counted(k, size, rows...); got != "0" || err != wanted {
		t.Errorf("Count(%d, %d) of %s: %s, error %d, wanted %d", k, size, text(rows...), got, err, wanted)
	}
}

// unlike are equations that don't fit two symbols of one byte.
func unlike() []vec.Row {
	return []vec.Row{
		{}, row("", "\x01"), row("\x01", "\x01"), row("\x01\x02\x03", "\x01"), row("\x01\x02", ""), row("\x01\x02", "\x01\x02"),
		row("\x01", "\x01\x02"), row("\x00", "\x00"), row("\x00\x00", ""), row("\x00\x00\x00", "\x00"), row("\x00\x00", "\x00\x00"),
	}
}

func TestWrongSizes(t *testing.T) { // P9.1, P9.2
	for _, c := range []struct{ k, size int }{
		{0, 0}, {0, 1}, {-1, 1}, {1, -1}, {0, -1}, {-1, -1},
		{api.MaxSymbols + 1, 0}, {1, api.MaxSymbol + 1}, {api.MaxSymbols + 1, api.MaxSymbol + 1},
		{math.MinInt, 1}, {1, math.MinInt}, {math.MaxInt, 1}, {1, math.MaxInt}, {math.MinInt, math.MaxInt}, {math.MaxInt, math.MaxInt},
	} {
		refused(t, api.ErrRange, c.k, c.size)
		refused(t, api.ErrRange, c.k, c.size, vec.Row{})
		refused(t, api.ErrRange, c.k, c.size, unlike()...)
	}
}

func TestWrongRows(t *testing.T) { // P9.1, P9.2: wherever they stand, and whatever stands ahead
	good, clash := row("\x01\x01", "\x03"), row("\x01\x01", "\x04")
	for _, r := range unlike() {
		refused(t, api.ErrSize, 2, 1, r)
		refused(t, api.ErrSize, 2, 1, r, good)
		refused(t, api.ErrSize, 2, 1, good, r)
		refused(t, api.ErrSize, 2, 1, good, clash, r)
		refused(t, api.ErrSize, 2, 1, good, row("\x00\x01", "\x03"), clash, good, r, good)
	}
	refused(t, api.ErrSize, 2, api.MaxSymbol, good) // a count that would be too great
	refused(t, api.ErrSize, 1, 0, vec.Row{})
}

func TestHolds(t *testing.T) { // P9.1
	solved(func(k, size int, symbols [][]byte, rows []vec.Row) {
		if !solve.Holds(symbols, rows...) {
			t.Fatalf("%s don't hold", text(rows...))
		}
		for i := range rows {
			for j := range size {
				rows[i].Data[j] ^= 0x80
				if solve.Holds(symbols, rows...) || solve.Holds(symbols, rows[i]) {
					t.Fatalf("%s: the row %d holds, other than it was at %d", text(rows...), i, j)
				}
				rows[i].Data[j] ^= 0x80
			}
		}
	})
	a, b := row("\x01\x02", "\x05"), row("\x00\x01", "\x02")
	for _, c := range []struct {
		symbols [][]byte
		want    bool
	}{
		{[][]byte{{1}, {2}}, true}, {[][]byte{{1}, {3}}, false}, {[][]byte{{0}, {2}}, false}, {[][]byte{{2}, {1}}, false},
	} {
		if got := solve.Holds(c.symbols, a, b); got != c.want {
			t.Errorf("Holds of %v: %t", c.symbols, got)
		}
	}
}

func TestHoldsOfSizes(t *testing.T) { // P9.1: as many symbols as there are bytes, each as long as the data
	two := [][]byte{{1, 2}, {3, 4}}
	for _, c := range []struct {
		what    string
		symbols [][]byte
		rows    []vec.Row
		want    bool
	}{
		{"none, of none", nil, nil, true},
		{"none, of two", two, nil, true},
		{"none, of unlike ones", [][]byte{{1}, {}, {1, 2}}, nil, true},
		{"as it should be", two, []vec.Row{row("\x01\x01", "\x02\x06")}, true},
		{"too few symbols", two[:1], []vec.Row{row("\x01\x00", "\x01\x02")}, false},
		{"too many symbols", two, []vec.Row{row("\x01", "\x01\x02")}, false},
		{"no symbols", nil, []vec.Row{row("\x01", "\x01")}, false},
		{"no symbols, a vector of noughts", nil, []vec.Row{row("\x00", "\x00")}, false},
		{"no symbols, no vector, no data", nil, []vec.Row{{}}, true},
		{"no symbols, no vector, but data", nil, []vec.Row{row("", "\x00")}, false},
		{"symbols, no vector, no data", two, []vec.Row{{}}, false},
		{"one of no bytes, no vector, no data", [][]byte{{}}, []vec.Row{{}}, false},
		{"symbols without bytes", [][]byte{{}, nil}, []vec.Row{row("\x05\x06", ""), row("\x00\x00", "")}, true},
		{"symbols without bytes, but data", [][]byte{{}, nil}, []vec.Row{row("\x05\x06", "\x00")}, false},
		{"less data", two, []vec.Row{row("\x01\x01", "\x02")}, false},
		{"more data", two, []vec.Row{row("\x01\x01", "\x02\x06\x00")}, false},
		{"no data", two, []vec.Row{row("\x01\x01", "")}, false},
		{"unlike symbols", [][]byte{{1, 2}, {3}}, []vec.Row{row("\x01\x00", "\x01\x02")}, false},
		{"unlike symbols, the first one short", [][]byte{{1}, {3, 4}}, []vec.Row{row("\x00\x01", "\x03\x04")}, false},
		{"unlike symbols, noughts", [][]byte{{0}, {0, 0}}, []vec.Row{row("\x00\x00", "\x00")}, false},
		{"the last one of another size", two, []vec.Row{row("\x01\x01", "\x02\x06"), row("\x01", "\x01\x02")}, false},
		{"the first one of another size", two, []vec.Row{row("\x01", "\x01\x02"), row("\x01\x01", "\x02\x06")}, false},
		{"one of no size", two, []vec.Row{row("\x01\x01", "\x02\x06"), {}}, false},
	} {
		if got := solve.Holds(c.symbols, c.rows...); got != c.want {
			t.Errorf("Holds, %s: %t", c.what, got)
		}
	}
	long := make([][]byte, api.MaxSymbols+1) // no limit is named for them
	v := make(vec.Vec, len(long))
	for i := range long {
		long[i], v[i] = []byte{byte(i)}, byte(i*3)
	}
	if r := combined(v, 1, long); !solve.Holds(long, r) || !solve.Holds([][]byte{make([]byte, api.MaxSymbol+1)}, vec.Of(vec.Vec{1}, make([]byte, api.MaxSymbol+1))) {
		t.Error("Holds above the limits: false")
	}
}

func TestSpan(t *testing.T) { // P9.1
	systems(func(k, size int, rows []vec.Row) {
		tried := append(drawn(uint64(len(rows)), 3, k, 0, 2), drawn(uint64(size), 3, k, 0, 256)...)
		for _, r := range append(tried, rows...) {
			want := rank(false, append(slices.Clone(rows), r)...) == rank(false, rows...)
			if got := solve.Span(r.Vec, rows...); got != want {
				t.Fatalf("Span of %s, of %s: %t", text(r), text(rows...), got)
			}
		}
		all := make([][]byte, len(rows))
		for i, r := range rows {
			all[i] = r.Vec
		}
		for _, c := range drawn(9, 3, len(rows), 0, 256) {
			if sum := combined(c.Vec, k, all); !solve.Span(sum.Data, rows...) {
				t.Fatalf("Span of %s, of %s: false", text(sum), text(rows...))
			}
		}
	})
}

func TestSpanByAllCombinations(t *testing.T) { // P9.1: each tried
	a, b := row("\x03\x06\x05", ""), row("\x06\x0C\x01", "")
	span := map[[3]byte]bool{}
	for c := range 256 {
		for d := range 256 {
			sum := combined(vec.Vec{byte(c), byte(d)}, 3, [][]byte{a.Vec, b.Vec})
			span[[3]byte(sum.Data)] = true
		}
	}
	for n := range 1 << 14 {
		v := [3]byte{byte(n), byte(2 * n), byte(n >> 6)}
		if n%2 == 1 {
			v[1] = field.Mul(2, v[0])
		}
		if got := solve.Span(v[:], a, b); got != span[v] {
			t.Fatalf("Span of %v: %t", v, got)
		}
	}
}

func TestSpanOfOtherLengths(t *testing.T) { // P9.1: they are passed over
	long := strings.Repeat("\x01", api.MaxCells+5)
	for _, c := range []struct {
		what string
		v    string
		rows []vec.Row
		want bool
	}{
		{"0, of none", "\x00\x00", nil, true},
		{"another one, of none", "\x00\x01", nil, false},
		{"no bytes, of none", "", nil, true},
		{"no bytes, of no bytes", "", []vec.Row{{}, row("", "\x01")}, true},
		{"no bytes, of some", "", []vec.Row{row("\x01", "")}, true},
		{"0, of 0", "\x00", []vec.Row{row("\x00", "")}, true},
		{"0, of one", "\x00", []vec.Row{row("\x01", "")}, true},
		{"one, of 0", "\x05", []vec.Row{row("\x00", "")}, false},
		{"one, of one", "\x05", []vec.Row{row("\x09", "")}, true},
		{"shorter ones alone", "\x01\x00", []vec.Row{row("\x01", ""), {}}, false},
		{"longer ones alone", "\x01\x00", []vec.Row{row("\x01\x00\x00", "")}, false},
		{"0, of others alone", "\x00\x00", []vec.Row{row("\x01", ""), row("\x01\x00\x00", "")}, true},
		{"others between", "\x05\x07", []vec.Row{row("\x01", ""), row("\x01\x01", ""), row("\x01\x00\x00", ""), row("\x00\x01", ""), {}}, true},
		{"others between, one too few", "\x05\x07", []vec.Row{row("\x01", ""), row("\x01\x01", ""), row("\x05\x07\x00", ""), row("\x02\x02", ""), {}}, false},
		{"data isn't looked at", "\x05\x07", []vec.Row{row("\x01\x01", "\x01\x02"), row("\x00\x01", ""), row("\x01\x01", "\x09")}, true},
		{"longer than a grid", long, []vec.Row{row(long[1:], ""), row(long, "")}, true},
		{"longer than a grid, at the end", long, []vec.Row{row(long[1:]+"\x00", ""), row(long[1:]+"\x02", "")}, true},
		{"longer than a grid, not so", long, []vec.Row{row(long[1:]+"\x00", "")}, false},
	} {
		if got := solve.Span(vec.Vec(c.v), c.rows...); got != c.want {
			t.Errorf("Span, %s: %t", c.what, got)
		}
	}
}

func TestMemory(t *testing.T) { // what is handed in is neither changed, spare room included, nor are lists of it
	whole := []byte{1, 2, 3, 9, 9, 0, 5, 6, 7, 9, 1, 2, 3, 8, 9, 9, 1, 2, 3, 9, 7, 7}
	rows := make([]vec.Row, 5, 8)
	for i, at := range []int{0, 6, 10, 5} {
		rows[i] = vec.Row{Vec: whole[at : at+3], Data: whole[at+3 : at+4]}
	}
	rows[4] = vec.Row{Vec: whole[:2], Data: whole[2:2]}
	v := vec.Vec(whole[16:19])
	symbols := [][]byte{whole[:1], whole[1:2], whole[2:3]}
	before, rest := string(whole), text(rows[:cap(rows)]...)
	solve.Judge(3, 1, rows[:4]...)
	solve.Judge(3, 1, rows...)
	solve.Count(3, 1, rows[:4]...)
	solve.Holds(symbols, rows...)
	solve.Holds(symbols, rows[:2]...)
	if !solve.Span(v, rows...) || !solve.Span(v, rows[4], rows[0]) {
		t.Error("Span: false")
	}
	if string(whole) != before || text(rows[:cap(rows)]...) != rest || text(vec.Of(v, nil)) != "1 2 3 : ;" {
		t.Errorf("what was handed in was changed: %v", whole)
	}
}

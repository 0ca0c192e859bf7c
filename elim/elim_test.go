package elim_test

import (
	"math"
	"slices"
	"strconv"
	"testing"

	"wellspring/api"
	"wellspring/elim"
	"wellspring/field"
	"wellspring/grid"
	"wellspring/mix"
	"wellspring/vec"
)

// row: of bytes as texts.
func row(v, data string) vec.Row { return vec.Of(vec.Vec(v), []byte(data)) }

// text: rows, byte by byte in base ten, vector and data.
func text(rows ...vec.Row) string {
	var l []byte
	for _, r := range rows {
		l = append(told(l, r.Vec), ": "...)
		l = append(told(l, r.Data), ';')
	}
	return string(l)
}

// told: l, and each byte of the row behind it.
func told(l, row []byte) []byte {
	for _, b := range row {
		l = append(strconv.AppendInt(l, int64(b), 10), ' ')
	}
	return l
}

// made: a system that must be one.
func made(t *testing.T, k, size int) *elim.Elim {
	t.Helper()
	s, err := elim.New(k, size)
	if err != api.OK || s == nil {
		t.Fatalf("New(%d, %d): error %d", k, size, err)
	}
	return s
}

// put: equations, of which all must come to the same.
func put(t *testing.T, s *elim.Elim, wanted int, rows ...vec.Row) {
	t.Helper()
	for _, r := range rows {
		if got, err := s.Put(r); got != wanted || err != api.OK {
			t.Fatalf("Put of %s: %d, error %d, wanted %d", text(r), got, err, wanted)
		}
	}
}

// drawn: equations of a seed, whose bytes are modulo values, so that few values make few independent ones.
func drawn(seed uint64, count, k, size, values int) []vec.Row {
	m := mix.New(seed)
	rows := make([]vec.Row, count)
	for i := range rows {
		l := make([]byte, k+size)
		for j := range l {
			l[j] = byte(m.Next() % uint64(values))
		}
		rows[i] = vec.Of(l[:k], l[k:])
	}
	return rows
}

// rank: that of the grid of all vectors and, with data, of what they carry beside them.
func rank(data bool, rows ...vec.Row) int {
	l := make([][]byte, len(rows))
	for i, r := range rows {
		l[i] = append([]byte{}, r.Vec...)
		if data {
			l[i] = append(l[i], r.Data...)
		}
	}
	if len(l) == 0 {
		return 0
	}
	g, err := grid.Of(len(l[0]), l...)
	if err != api.OK {
		panic("a grid that is none")
	}
	return g.Rank()
}

// verdict: what must come of one more equation, by ranks: another way than the program's.
func verdict(taken []vec.Row, r vec.Row) int {
	with := append(slices.Clone(taken), r)
	switch {
	case rank(false, with...) > rank(false, taken...):
		return elim.Grown
	case rank(true, with...) > rank(true, taken...):
		return elim.Clash
	}
	return elim.Spare
}

// check: the rows are what the chapter says of what was taken: each leads with a 1, one behind the other, where one leads all others have a 0, and all combine the same.
func check(t *testing.T, s *elim.Elim, taken []vec.Row) {
	t.Helper()
	rows := s.Rows()
	k, size := s.Size()
	behind := -1
	for i, r := range rows {
		lead := r.Lead()
		if len(r.Vec) != k || len(r.Data) != size || lead <= behind || r.At(lead) != 1 {
			t.Fatalf("rows: %s", text(rows...))
		}
		for j, o := range rows {
			if i != j && o.At(lead) != 0 {
				t.Fatalf("where one leads, another has something: %s", text(rows...))
			}
		}
		behind = lead
	}
	all := append(slices.Clone(taken), rows...)
	if n := len(rows); s.Rank() != n || rank(false, taken...) != n || rank(true, taken...) != n || rank(true, all...) != n {
		t.Fatalf("rank %d, of %s the rows %s", s.Rank(), text(taken...), text(rows...))
	}
}

// rest: byte by byte, by the field alone.
func rest(s *elim.Elim, r vec.Row) vec.Row {
	l := vec.Of(r.Vec, r.Data)
	for _, o := range s.Rows() {
		c := r.Vec[o.Lead()]
		for i, b := range o.Vec {
			l.Vec[i] = field.Add(l.Vec[i], field.Mul(c, b))
		}
		for i, b := range o.Data {
			l.Data[i] = field.Add(l.Data[i], field.Mul(c, b))
		}
	}
	return l
}

// systems: f is asked of systems of many sizes, and of equations for them, of which some are spare, and some clash.
func systems(t *testing.T, f func(s *elim.Elim, rows []vec.Row)) {
	seed := uint64(0)
	for _, k := range []int{1, 2, 3, 5, 12} {
		for _, size := range []int{0, 1, 2, 7} {
			for _, values := range []int{1, 2, 3, 256} {
				for range 6 {
					seed++
					f(made(t, k, size), drawn(seed, k+4, k, size, values))
				}
			}
		}
	}
}

func TestNew(t *testing.T) { // P8.1
	for _, c := range []struct{ k, size int }{{1, 0}, {1, 1}, {2, 1}, {api.MaxSymbols, 0}, {1, api.MaxSymbol}, {api.MaxSymbols, api.MaxSymbol}} {
		s := made(t, c.k, c.size)
		k, size := s.Size()
		if k != c.k || size != c.size || s.Rank() != 0 || len(s.Rows()) != 0 {
			t.Errorf("New(%d, %d): %d, %d, rank %d", c.k, c.size, k, size, s.Rank())
		}
	}
	for _, c := range []struct{ k, size int }{
		{0, 0}, {0, 1}, {-1, 1}, {1, -1}, {0, -1}, {-1, -1},
		{api.MaxSymbols + 1, 0}, {1, api.MaxSymbol + 1}, {api.MaxSymbols + 1, api.MaxSymbol + 1},
		{math.MinInt, 1}, {1, math.MinInt}, {math.MaxInt, 1}, {1, math.MaxInt}, {math.MinInt, math.MaxInt},
	} {
		if s, err := elim.New(c.k, c.size); s != nil || err != api.ErrRange {
			t.Errorf("New(%d, %d): %v, error %d", c.k, c.size, s, err)
		}
	}
}

func TestNumbers(t *testing.T) { // P8.1: what the chapter calls them
	if elim.Grown != 0 || elim.Spare != 1 || elim.Clash != 2 {
		t.Errorf("Grown %d, Spare %d, Clash %d", elim.Grown, elim.Spare, elim.Clash)
	}
}

func TestExample(t *testing.T) { // P8.1, P8.2
	s := made(t, 2, 1)
	put(t, s, elim.Grown, row("\x01\x01", "\x03"), row("\x00\x01", "\x02"))
	one, ok := s.Known(0)
	two, also := s.Known(1)
	if !ok || !also || string(one) != "\x01" || string(two) != "\x02" {
		t.Errorf("Known: %v, %t, %v, %t", one, ok, two, also)
	}
	if got := text(s.Rows()...); got != "1 0 : 1 ;0 1 : 2 ;" {
		t.Errorf("Rows: %s", got)
	}
}

func TestPut(t *testing.T) { // P8.1, P8.3: the rank is that of all that didn't clash
	systems(t, func(s *elim.Elim, rows []vec.Row) {
		var taken []vec.Row
		for _, r := range rows {
			want := verdict(taken, r)
			before := text(s.Rows()...)
			put(t, s, want, r)
			if want != elim.Clash {
				taken = append(taken, r)
			}
			if want != elim.Grown && text(s.Rows()...) != before {
				t.Fatalf("what came to %d changed the rows", want)
			}
			check(t, s, taken)
		}
	})
}

func TestPutSpareAndClash(t *testing.T) { // P8.1
	s := made(t, 3, 2)
	put(t, s, elim.Spare, row("\x00\x00\x00", "\x00\x00"))
	put(t, s, elim.Clash, row("\x00\x00\x00", "\x00\x01"), row("\x00\x00\x00", "\x01\x00"))
	put(t, s, elim.Grown, row("\x00\x02\x04", "\x06\x08"))
	put(t, s, elim.Spare, row("\x00\x02\x04", "\x06\x08"), row("\x00\x01\x02", "\x03\x04"), row("\x00\x00\x00", "\x00\x00"))
	put(t, s, elim.Clash, row("\x00\x01\x02", "\x03\x05"), row("\x00\x01\x02", "\x02\x04"), row("\x00\x00\x00", "\x00\xFF"))
	if got := text(s.Rows()...); got != "0 1 2 : 3 4 ;" {
		t.Errorf("Rows: %s", got)
	}
	put(t, s, elim.Grown, row("\x00\x01\x03", "\x03\x04"), row("\x05\x00\x00", "\x00\x00")) // goes on behind a clash
	if got := text(s.Rows()...); got != "1 0 0 : 0 0 ;0 1 0 : 3 4 ;0 0 1 : 0 0 ;" {
		t.Errorf("Rows: %s", got)
	}
	put(t, s, elim.Clash, row("\x01\x00\x00", "\x00\x01"))
}

func TestWithoutData(t *testing.T) { // P8.1, P8.2: nothing clashes, symbols have no bytes
	s := made(t, 2, 0)
	put(t, s, elim.Grown, row("\x03\x01", ""))
	put(t, s, elim.Spare, row("\x03\x01", ""), row("\x00\x00", ""), row("\x06\x02", ""))
	if l, ok := s.Known(0); ok || len(l) != 0 {
		t.Errorf("Known(0), one row of two: %v, %t", l, ok)
	}
	put(t, s, elim.Grown, row("\x00\x09", ""))
	put(t, s, elim.Spare, row("\xFF\xFE", ""))
	if l, ok := s.Known(1); !ok || len(l) != 0 {
		t.Errorf("Known(1): %v, %t", l, ok)
	}
	if l, err := s.Solve(); err != api.OK || len(l) != 2 || len(l[0]) != 0 || len(l[1]) != 0 {
		t.Errorf("Solve: %v, error %d", l, err)
	}
}

// unlike are equations that don't fit two symbols of one byte.
func unlike() []vec.Row {
	return []vec.Row{
		{}, row("", "\x01"), row("\x01", "\x01"), row("\x01\x02\x03", "\x01"), row("\x01\x02", ""), row("\x01\x02", "\x01\x02"),
		row("\x01", "\x01\x02"), row("\x00", "\x00"), row("\x00\x00", ""), row("\x00\x00\x00", "\x00"), row("\x00\x00", "\x00\x00"),
	}
}

func TestWrongSizes(t *testing.T) { // P8.1: a call that is refused changes nothing
	empty, one, full := made(t, 2, 1), made(t, 2, 1), made(t, 2, 1)
	put(t, one, elim.Grown, row("\x02\x01", "\x03"))
	put(t, full, elim.Grown, row("\x01\x01", "\x03"), row("\x00\x01", "\x02"))
	for _, s := range []*elim.Elim{empty, one, full} {
		before := text(s.Rows()...)
		for _, r := range unlike() {
			if got, err := s.Put(r); got != 0 || err != api.ErrSize {
				t.Errorf("Put of %s: %d, error %d", text(r), got, err)
			}
			if got, err := s.Rest(r); text(got) != text(vec.Row{}) || err != api.ErrSize {
				t.Errorf("Rest of %s: %s, error %d", text(r), text(got), err)
			}
		}
		if text(s.Rows()...) != before {
			t.Errorf("rows behind refused calls: %s", text(s.Rows()...))
		}
	}
	if _, err := made(t, 1, 0).Put(vec.Row{}); err != api.ErrSize {
		t.Errorf("Put of the zero row: error %d", err)
	}
}

func TestRest(t *testing.T) { // P8.1
	systems(t, func(s *elim.Elim, rows []vec.Row) {
		for i, r := range rows {
			before := text(s.Rows()...)
			for _, o := range rows {
				got, err := s.Rest(o)
				if err != api.OK || text(got) != text(rest(s, o)) {
					t.Fatalf("Rest of %s: %s, error %d, wanted %s", text(o), text(got), err, text(rest(s, o)))
				}
			}
			if text(s.Rows()...) != before || s.Rank() != rank(false, s.Rows()...) {
				t.Fatalf("Rest changed the rows, behind %d equations", i)
			}
			s.Put(r)
		}
	})
	s := made(t, 3, 1)
	put(t, s, elim.Grown, row("\x01\x00\x02", "\x07"))
	if got, err := s.Rest(row("\x03\x05\x00", "\x01")); err != api.OK || text(got) != "0 5 6 : 8 ;" { // isn't normed
		t.Errorf("Rest: %s, error %d", text(got), err)
	}
}

func TestRowsRise(t *testing.T) { // P8.1: whatever the order in which they came
	s := made(t, 4, 1)
	for _, c := range []struct{ v, rows string }{
		{"\x00\x00\x05\x05", "0 0 1 1 : 0 ;"},
		{"\x03\x00\x00\x00", "1 0 0 0 : 0 ;0 0 1 1 : 0 ;"},
		{"\x00\x00\x00\x09", "1 0 0 0 : 0 ;0 0 1 0 : 0 ;0 0 0 1 : 0 ;"},
		{"\x01\x02\x03\x04", "1 0 0 0 : 0 ;0 1 0 0 : 0 ;0 0 1 0 : 0 ;0 0 0 1 : 0 ;"},
	} {
		put(t, s, elim.Grown, row(c.v, "\x00"))
		if got := text(s.Rows()...); got != c.rows {
			t.Errorf("behind %q: %s, wanted %s", c.v, got, c.rows)
		}
	}
}

func TestKnown(t *testing.T) { // P8.2
	none := []int{-1, -2, math.MinInt, math.MaxInt, 3, 4}
	s := made(t, 3, 2)
	for _, c := range []struct {
		r     vec.Row
		known [3]string
	}{
		{row("\x00\x02\x00", "\x02\x04"), [3]string{"-", "\x01\x02", "-"}},
		{row("\x01\x01\x01", "\x00\x00"), [3]string{"-", "\x01\x02", "-"}}, // a 1, but not alone
		{row("\x00\x00\x03", "\x00\x00"), [3]string{"\x01\x02", "\x01\x02", "\x00\x00"}},
		{row("\x01\x01\x01", "\x07\x07"), [3]string{"\x01\x02", "\x01\x02", "\x00\x00"}}, // clashes
	} {
		for _, i := range none {
			if l, ok := s.Known(i); len(l) != 0 || ok {
				t.Errorf("Known(%d): %v, %t", i, l, ok)
			}
		}
		s.Put(c.r)
		for i, want := range c.known {
			l, ok := s.Known(i)
			if ok != (want != "-") || ok && string(l) != want || !ok && len(l) != 0 {
				t.Errorf("behind %s, Known(%d): %v, %t", text(c.r), i, l, ok)
			}
		}
	}
}

func TestKnownOfAll(t *testing.T) { // P8.2: by the rows
	systems(t, func(s *elim.Elim, rows []vec.Row) {
		k, _ := s.Size()
		for range len(rows) + 1 {
			for i := range k {
				unit, _ := vec.Unit(k, i)
				want := slices.IndexFunc(s.Rows(), func(r vec.Row) bool { return slices.Equal(r.Vec, unit) })
				l, ok := s.Known(i)
				if ok != (want >= 0) || ok && !slices.Equal(l, s.Rows()[want].Data) || !ok && len(l) != 0 {
					t.Fatalf("Known(%d) of %s: %v, %t", i, text(s.Rows()...), l, ok)
				}
			}
			if len(rows) > 0 {
				s.Put(rows[0])
				rows = rows[1:]
			}
		}
	})
}

func TestSolve(t *testing.T) { // P8.2
	systems(t, func(s *elim.Elim, rows []vec.Row) {
		k, size := s.Size()
		for range len(rows) + 1 {
			l, err := s.Solve()
			switch {
			case s.Rank() < k:
				if err != api.ErrPending || len(l) != 0 {
					t.Fatalf("Solve of %s: %v, error %d", text(s.Rows()...), l, err)
				}
			case err != api.OK || len(l) != k:
				t.Fatalf("Solve of %s: %v, error %d", text(s.Rows()...), l, err)
			default:
				for i, symbol := range l {
					known, ok := s.Known(i)
					if len(symbol) != size || !ok || !slices.Equal(symbol, known) {
						t.Fatalf("Solve of %s: %v", text(s.Rows()...), l)
					}
				}
			}
			if len(rows) > 0 {
				s.Put(rows[0])
				rows = rows[1:]
			}
		}
	})
}

// combined: the equation of a vector that symbols solve, byte by byte, by the field alone.
func combined(v vec.Vec, symbols []vec.Row) vec.Row {
	data := make([]byte, len(symbols[0].Data))
	for i, c := range v {
		for j, b := range symbols[i].Data {
			data[j] = field.Add(data[j], field.Mul(c, b))
		}
	}
	return vec.Of(v, data)
}

func TestOneSolution(t *testing.T) { // P8.3: nothing clashes, and what is solved is the solution
	for _, k := range []int{1, 2, 7, 30} {
		for seed := range uint64(12) {
			symbols := drawn(seed, k, k, 5, 256)
			s := made(t, k, 5)
			for _, r := range drawn(seed+100, 4*k+8, k, 0, 2+int(seed)*20) {
				if got, err := s.Put(combined(r.Vec, symbols)); got == elim.Clash || err != api.OK {
					t.Fatalf("%d symbols: %d, error %d", k, got, err)
				}
			}
			l, err := s.Solve()
			if err != api.OK {
				t.Fatalf("%d symbols, seed %d: rank %d, error %d", k, seed, s.Rank(), err)
			}
			for i, symbol := range l {
				if !slices.Equal(symbol, symbols[i].Data) {
					t.Fatalf("symbol %d: %v, wanted %v", i, symbol, symbols[i].Data)
				}
			}
		}
	}
}

func TestOrders(t *testing.T) { // P8.3: whatever the order is, the rows are the same
	for seed := range uint64(8) {
		symbols := drawn(seed, 4, 4, 2, 256)
		var rows []vec.Row
		for _, r := range drawn(seed+50, 5, 4, 0, 2+int(seed)) {
			rows = append(rows, combined(r.Vec, symbols))
		}
		want := "-"
		orders(rows, 0, func() {
			s := made(t, 4, 2)
			for _, r := range rows {
				s.Put(r)
			}
			if got := text(s.Rows()...); want == "-" {
				want = got
			} else if got != want {
				t.Fatalf("of %s: %s, wanted %s", text(rows...), got, want)
			}
		})
	}
}

// orders: f is asked of each order of the list from the place i on.
func orders(l []vec.Row, i int, f func()) {
	if i == len(l) {
		f()
		return
	}
	for j := i; j < len(l); j++ {
		l[i], l[j] = l[j], l[i]
		orders(l, i+1, f)
		l[i], l[j] = l[j], l[i]
	}
}

func TestAtTheBound(t *testing.T) { // P8.1, P8.2: as many symbols, and as long ones, as there can be
	s := made(t, api.MaxSymbols, 1)
	for n := range api.MaxSymbols {
		i := n * 1003 % api.MaxSymbols // each place once, and not one behind the other
		unit, _ := vec.Unit(api.MaxSymbols, i)
		if _, err := s.Solve(); err != api.ErrPending {
			t.Fatalf("Solve behind %d rows: error %d", n, err)
		}
		put(t, s, elim.Grown, vec.Of(unit, []byte{byte(i * 7)}))
	}
	l, err := s.Solve()
	if err != api.OK || len(l) != api.MaxSymbols || s.Rank() != api.MaxSymbols {
		t.Fatalf("Solve: %d symbols, error %d", len(l), err)
	}
	for i, symbol := range l {
		if string(symbol) != string([]byte{byte(i * 7)}) {
			t.Fatalf("symbol %d: %v", i, symbol)
		}
	}
	long := made(t, api.MaxSymbols, api.MaxSymbol)
	rows := drawn(5, 3, api.MaxSymbols, api.MaxSymbol, 256)
	put(t, long, elim.Grown, rows...)
	put(t, long, elim.Spare, rows...)
	rows[1].Data[api.MaxSymbol-1] ^= 1
	put(t, long, elim.Clash, rows[1])
	if got := long.Rows(); len(got) != 3 || got[2].Lead() != 2 || len(got[2].Data) != api.MaxSymbol {
		t.Errorf("%d rows", len(got))
	}
}

func TestClone(t *testing.T) { // P8.1: each goes on by itself
	systems(t, func(s *elim.Elim, rows []vec.Row) {
		half := len(rows) / 2
		for _, r := range rows[:half] {
			s.Put(r)
		}
		own := s.Clone()
		before := text(s.Rows()...)
		k, size := s.Size()
		if n, m := own.Size(); own == s || n != k || m != size || own.Rank() != s.Rank() || text(own.Rows()...) != before {
			t.Fatalf("Clone of %s: %s", before, text(own.Rows()...))
		}
		for _, r := range rows[half:] {
			own.Put(r)
		}
		if text(s.Rows()...) != before {
			t.Fatalf("what was put into the clone changed %s: %s", before, text(s.Rows()...))
		}
		after := text(own.Rows()...)
		slices.Reverse(rows)
		for _, r := range drawn(uint64(k), k, k, size, 256) {
			s.Put(r)
		}
		if text(own.Rows()...) != after {
			t.Fatalf("what was put in changed the clone %s: %s", after, text(own.Rows()...))
		}
	})
}

func TestNil(t *testing.T) { // P8.2
	var s *elim.Elim
	for _, r := range append(unlike(), row("\x01\x02", "\x03")) {
		if got, err := s.Put(r); got != 0 || err != api.ErrNil {
			t.Errorf("Put: %d, error %d", got, err)
		}
		if got, err := s.Rest(r); text(got) != text(vec.Row{}) || err != api.ErrNil {
			t.Errorf("Rest: %s, error %d", text(got), err)
		}
	}
	k, size := s.Size()
	if s.Rank() != 0 || k != 0 || size != 0 || len(s.Rows()) != 0 || s.Clone() != nil {
		t.Errorf("rank %d, size %d, %d, rows %v", s.Rank(), k, size, s.Rows())
	}
	for _, i := range []int{-1, 0, 1, math.MinInt, math.MaxInt} {
		if l, ok := s.Known(i); len(l) != 0 || ok {
			t.Errorf("Known(%d): %v, %t", i, l, ok)
		}
	}
	if l, err := s.Solve(); len(l) != 0 || err != api.ErrNil {
		t.Errorf("Solve: %v, error %d", l, err)
	}
}

// turn: all bits of all bytes, spare room included.
func turn(lists ...[]byte) {
	for _, l := range lists {
		l = l[:cap(l)]
		for i := range l {
			l[i] ^= 255
		}
	}
}

func TestMemoryOfArguments(t *testing.T) { // what is handed in is neither changed nor kept
	for _, v := range []string{"\x01\x00\x00", "\x00\x01\x00", "\x05\x06\x07", "\x00\x00\x00"} { // normed ones too: there nothing must be multiplied
		s := made(t, 3, 2)
		for range 2 {
			whole := []byte(v + "\x09\x00\x00\x09")
			before := string(whole)
			r := vec.Row{Vec: whole[:3], Data: whole[4:6]} // with spare room behind each
			left, _ := s.Rest(r)
			first := text(left)
			s.Put(r)
			if string(whole) != before {
				t.Fatalf("what was handed in was changed: %v", whole)
			}
			rows := text(s.Rows()...)
			turn(whole)
			if text(s.Rows()...) != rows || text(left) != first {
				t.Fatal("what was handed in is kept")
			}
		}
	}
}

func TestMemoryOfAnswers(t *testing.T) { // an answer is new memory
	s := made(t, 2, 2)
	put(t, s, elim.Grown, row("\x01\x00", "\x05\x06"), row("\x00\x01", "\x07\x08"))
	before := text(s.Rows()...)
	own := s.Clone()
	for range 2 {
		for _, r := range s.Rows() {
			turn(r.Vec)
			turn(r.Data)
		}
		l, _ := s.Known(1)
		turn(l)
		all, _ := s.Solve()
		turn(all...)
		left, _ := s.Rest(row("\x03\x03", "\x01\x01"))
		turn(left.Vec, left.Data)
		for _, r := range own.Rows() {
			turn(r.Vec, r.Data)
		}
		if text(s.Rows()...) != before || text(own.Rows()...) != before {
			t.Fatalf("the system shares memory with an answer: %s", text(s.Rows()...))
		}
	}
	rows := s.Rows()
	turn(rows[0].Vec)
	if string(rows[0].Data) != "\x05\x06" || text(rows[1]) != "0 1 : 7 8 ;" {
		t.Error("what one answer has shares memory")
	}
}

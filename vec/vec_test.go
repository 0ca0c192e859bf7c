package vec_test

import (
	"math"
	"testing"

	"wellspring/api"
	"wellspring/field"
	"wellspring/vec"
)

// said is a row, and what error stands beside it; lists without elements are told as "".
type said struct {
	v, data string
	err     api.Errno
}

func of(r vec.Row, err api.Errno) said { return said{string(r.Vec), string(r.Data), err} }

// row: of bytes as texts.
func row(v, data string) vec.Row { return vec.Of(vec.Vec(v), []byte(data)) }

// some are vectors, and where they lead.
var some = []struct {
	v    vec.Vec
	lead int
}{
	{nil, -1},
	{vec.Vec{}, -1},
	{vec.Vec{0}, -1},
	{vec.Vec{0, 0, 0, 0, 0, 0, 0, 0, 0}, -1},
	{vec.Vec{0, 0, 7}[:2], -1}, // what is behind it isn't its own
	{vec.Vec{1}, 0},
	{vec.Vec{255, 0, 0}, 0},
	{vec.Vec{128, 3, 0}, 0},
	{vec.Vec{0, 2, 4}, 1},
	{vec.Vec{0, 2, 0}, 1},
	{vec.Vec{0, 0, 0, 0, 0, 0, 0, 0, 200}, 8},
}

// long: a vector without noughts at its first places, of all bytes.
func long(length int) []byte {
	l := make([]byte, length)
	for i := range l {
		l[i] = byte(i*7 + 3)
	}
	return l
}

// times: each byte times c, by the field alone.
func times(c byte, l []byte) string {
	product := make([]byte, len(l))
	for i, b := range l {
		product[i] = field.Mul(c, b)
	}
	return string(product)
}

// less: x less c times y, by the field alone.
func less(x []byte, c byte, y []byte) string {
	rest := make([]byte, len(x))
	for i := range x {
		rest[i] = field.Add(x[i], field.Mul(c, y[i]))
	}
	return string(rest)
}

func TestUnit(t *testing.T) { // P3.1
	for _, n := range []int{1, 2, 3, 17, 256, api.MaxCells - 1, api.MaxCells} {
		for _, i := range []int{0, 1, n / 2, n - 1} {
			if i >= n {
				continue
			}
			got, err := vec.Unit(n, i)
			want := make([]byte, n)
			want[i] = 1
			if err != api.OK || string(got) != string(want) {
				t.Errorf("Unit(%d, %d): %d bytes, error %d", n, i, len(got), err)
			}
		}
	}
}

func TestUnitOfNoPlace(t *testing.T) { // P3.1
	for _, c := range []struct{ n, i int }{
		{0, 0}, {0, -1}, {0, 1}, {1, 1}, {3, 3}, {3, 4}, {3, -1},
		{-1, 0}, {-1, -1}, {-1, -2}, {-3, 1},
		{api.MaxCells, api.MaxCells}, {api.MaxCells + 1, 0}, {api.MaxCells + 1, api.MaxCells},
		{math.MinInt, 0}, {math.MinInt, math.MinInt}, {math.MaxInt, 0}, {math.MaxInt, math.MaxInt},
		{5, math.MinInt}, {5, math.MaxInt},
	} {
		if got, err := vec.Unit(c.n, c.i); len(got) != 0 || err != api.ErrRange {
			t.Errorf("Unit(%d, %d): %v, error %d", c.n, c.i, got, err)
		}
	}
}

func TestLead(t *testing.T) { // P3.1
	for _, c := range some {
		if got := c.v.Lead(); got != c.lead {
			t.Errorf("Lead of %v: %d, wanted %d", c.v, got, c.lead)
		}
		if got := row(string(c.v), "\x05").Lead(); got != c.lead { // a row embeds its vector
			t.Errorf("Lead of a row of %v: %d, wanted %d", c.v, got, c.lead)
		}
	}
	for i := range 40 {
		for b := 1; b < 256; b++ {
			v := make(vec.Vec, 40)
			v[i], v[39] = byte(b), byte(b)
			if got := v.Lead(); got != i {
				t.Fatalf("Lead, %d at %d: %d", b, i, got)
			}
		}
	}
}

func TestZero(t *testing.T) { // P3.1
	for _, c := range some {
		if got := c.v.Zero(); got != (c.lead == -1) {
			t.Errorf("Zero of %v: %t", c.v, got)
		}
		if got := row(string(c.v), "\x05").Zero(); got != (c.lead == -1) {
			t.Errorf("Zero of a row of %v: %t", c.v, got)
		}
	}
}

func TestAt(t *testing.T) { // P3.1
	v := vec.Vec(long(300))
	for i, b := range v {
		if got := v.At(i); got != b {
			t.Errorf("At(%d): %d, wanted %d", i, got, b)
		}
		if got := vec.Of(v, nil).At(i); got != b {
			t.Errorf("At(%d) of a row: %d, wanted %d", i, got, b)
		}
	}
	short := v[10:13] // with bytes ahead and behind that aren't its own
	for _, i := range []int{-1, -2, 3, 4, 289, math.MinInt, math.MaxInt} {
		if got := short.At(i); got != 0 {
			t.Errorf("At(%d) of three bytes: %d", i, got)
		}
	}
	for _, i := range []int{-1, 0, 1} {
		if got := (vec.Vec{}).At(i); got != 0 {
			t.Errorf("At(%d) of no bytes: %d", i, got)
		}
		if got := vec.Vec(nil).At(i); got != 0 {
			t.Errorf("At(%d) of nil: %d", i, got)
		}
	}
}

func TestOf(t *testing.T) { // P3.1
	for _, c := range some {
		for _, data := range []string{"", "\x00", "\x06\x00\x09"} {
			if got := of(vec.Of(c.v, []byte(data)), api.OK); got != (said{string(c.v), data, api.OK}) {
				t.Errorf("Of(%v, %q): %v", c.v, data, got)
			}
		}
	}
	if got := of(vec.Of(nil, nil), api.OK); got != (said{}) {
		t.Errorf("Of nothing: %v", got)
	}
}

func TestNorm(t *testing.T) { // P3.2
	if got := of(row("\x00\x02\x04", "\x06").Norm(), api.OK); got != (said{"\x00\x01\x02", "\x03", api.OK}) {
		t.Errorf("the example: %v", got)
	}
	v, data := long(60), long(300)
	for lead := 1; lead < 256; lead++ {
		inverse, _ := field.Inv(byte(lead))
		for _, place := range []int{0, 1, 59} {
			clear(v[:place])
			v[place] = byte(lead)
			want := said{times(inverse, v), times(inverse, data), api.OK}
			if got := of(vec.Of(v, data).Norm(), api.OK); got != want || got.v[place] != 1 {
				t.Fatalf("Norm, %d at %d: %v, wanted %v", lead, place, got, want)
			}
		}
		copy(v, long(60))
	}
	if got := of(row("\x02", "").Norm(), api.OK); got != (said{"\x01", "", api.OK}) {
		t.Errorf("Norm without data: %v", got)
	}
}

func TestNormOfWhatDoesNotLead(t *testing.T) { // P3.2
	for _, v := range []string{"", "\x00", "\x00\x00\x00"} {
		for _, data := range []string{"", "\x00", "\x06\x00\x09"} {
			if got := of(row(v, data).Norm(), api.OK); got != (said{v, data, api.OK}) {
				t.Errorf("Norm of %q and %q: %v", v, data, got)
			}
		}
	}
	if got := of(vec.Row{}.Norm(), api.OK); got != (said{}) {
		t.Errorf("Norm of the zero row: %v", got)
	}
}

func TestLess(t *testing.T) { // P3.2
	for _, size := range []struct{ v, data int }{{0, 0}, {1, 0}, {0, 1}, {3, 1}, {40, 300}} {
		a, b := vec.Of(long(size.v), long(size.data)), vec.Of(long(size.v + 5)[5:], long(size.data + 9)[9:])
		for c := range 256 {
			want := said{less(a.Vec, byte(c), b.Vec), less(a.Data, byte(c), b.Data), api.OK}
			if got := of(a.Less(byte(c), b)); got != want {
				t.Fatalf("Less(%d) of %v: %v, wanted %v", c, size, got, want)
			}
		}
	}
	if got := of(vec.Row{}.Less(7, vec.Row{Vec: vec.Vec{}, Data: []byte{}})); got != (said{}) {
		t.Errorf("Less of rows without bytes: %v", got)
	}
}

func TestLessOfUnlikeLengths(t *testing.T) { // P3.2
	l := []vec.Row{row("", ""), row("\x00", ""), row("", "\x00"), row("\x00", "\x00"), row("\x01\x02", "\x03"), row("\x01", "\x03\x04"), row("\x01\x02", "\x03\x04")}
	for i, a := range l {
		for j, b := range l {
			if i == j {
				continue
			}
			for _, c := range []byte{0, 1, 200} { // 0, too: what takes nothing away is looked at all the same
				if got := of(a.Less(c, b)); got != (said{err: api.ErrSize}) {
					t.Errorf("%v Less(%d, %v): %v", a, c, b, got)
				}
			}
		}
	}
}

func TestClone(t *testing.T) { // P3.2
	for _, v := range []string{"", "\x00\x00", "\x00\x02\x04"} {
		for _, data := range []string{"", "\x00", "\x06\x07"} {
			if got := of(row(v, data).Clone(), api.OK); got != (said{v, data, api.OK}) {
				t.Errorf("Clone of %q and %q: %v", v, data, got)
			}
		}
	}
	if got := of(vec.Row{}.Clone(), api.OK); got != (said{}) {
		t.Errorf("Clone of the zero row: %v", got)
	}
}

func TestSame(t *testing.T) { // P3.2
	l := []vec.Row{row("", ""), row("\x00", ""), row("", "\x00"), row("\x01\x02", "\x03"), row("\x01\x02", "\x04"), row("\x01\x02", "\x03\x00"), row("\x01\x02\x00", "\x03"), row("\x02\x02", "\x03"), row("\x01", "\x02\x03")}
	for i, a := range l {
		for j, b := range l {
			if got := vec.Same(a, b); got != (i == j) {
				t.Errorf("Same(%v, %v): %t", a, b, got)
			}
		}
	}
	if !vec.Same(vec.Row{}, vec.Row{Vec: vec.Vec{}, Data: []byte{}}) {
		t.Error("Same of nil and empty: false")
	}
}

func TestNormed(t *testing.T) { // P3.3
	for lead := 1; lead < 256; lead++ {
		r := vec.Of(vec.Vec{0, byte(lead), 0, 77, 1, byte(lead)}, []byte{4, byte(lead), 0})
		normed := r.Norm()
		if normed.Lead() != 1 || normed.At(1) != 1 {
			t.Errorf("%v normed: %v", r, normed)
		}
		if !vec.Same(normed, normed.Norm()) {
			t.Errorf("%v normed again: %v", normed, normed.Norm())
		}
	}
}

func TestLeadsLater(t *testing.T) { // P3.3
	for lead := 1; lead < 256; lead++ {
		r := vec.Of(vec.Vec{0, byte(lead), 0, 77, 1}, []byte{4, byte(lead), 0})
		normed := r.Norm()
		if got := of(r.Less(byte(lead), normed)); got != (said{"\x00\x00\x00\x00\x00", "\x00\x00\x00", api.OK}) {
			t.Errorf("%v less as much of itself as it leads with: %v", r, got)
		}
		other := vec.Of(vec.Vec{0, byte(256 - lead), 5, 0, 9}, []byte{1, 2, 3}) // leads where r does
		rest, err := other.Less(other.At(1), normed)
		if err != api.OK || rest.Lead() != 2 {
			t.Errorf("%v less as much of %v as it leads with: %v", other, normed, rest)
		}
	}
}

// calls: each of the calls that answer a row, of a vector and data that are handed in.
var calls = map[string]func(v vec.Vec, data []byte) vec.Row{
	"Of":              func(v vec.Vec, data []byte) vec.Row { return vec.Of(v, data) },
	"Clone":           func(v vec.Vec, data []byte) vec.Row { return vec.Row{Vec: v, Data: data}.Clone() },
	"Norm":            func(v vec.Vec, data []byte) vec.Row { return vec.Row{Vec: v, Data: data}.Norm() },
	"Norm, led by 1":  func(v vec.Vec, data []byte) vec.Row { return vec.Row{Vec: v[2:], Data: data}.Norm() },
	"Norm of noughts": func(v vec.Vec, data []byte) vec.Row { return vec.Row{Vec: v[:1], Data: data}.Norm() },
	"Norm of nothing": func(v vec.Vec, data []byte) vec.Row { return vec.Row{Vec: v[:0], Data: data[:0]}.Norm() },
	"Less": func(v vec.Vec, data []byte) vec.Row {
		r := vec.Row{Vec: v, Data: data}
		l, _ := r.Less(3, r)
		return l
	},
	"Less nothing": func(v vec.Vec, data []byte) vec.Row {
		r := vec.Row{Vec: v, Data: data}
		l, _ := r.Less(0, r)
		return l
	},
}

// turn: all bits of all bytes, spare room included.
func turn(l []byte) {
	l = l[:cap(l)]
	for i := range l {
		l[i] ^= 255
	}
}

func TestMemory(t *testing.T) { // P3.2: an answer shares nothing with what is handed in
	for name, call := range calls {
		whole := []byte{0, 6, 1, 4, 5, 6, 7, 8, 9, 10, 11, 12}
		before := string(whole)
		v, data := vec.Vec(whole[:4]), whole[6:9] // with spare room behind each
		got := call(v, data)
		first := of(got, api.OK)
		if string(whole) != before {
			t.Errorf("%s changed what was handed in: %v", name, whole)
		}
		again := call(v, data)
		turn(got.Vec)
		if string(got.Data) != first.data {
			t.Errorf("%s: vector and data share memory", name)
		}
		turn(got.Data)
		if string(whole) != before || of(again, api.OK) != first {
			t.Errorf("%s shares its answer", name)
		}
		turn(whole)
		if of(again, api.OK) != first {
			t.Errorf("%s keeps what was handed in", name)
		}
	}
}

func TestMemoryOfUnit(t *testing.T) { // P3.1
	one, _ := vec.Unit(4, 2)
	two, _ := vec.Unit(4, 2)
	turn(one)
	if string(two) != "\x00\x00\x01\x00" {
		t.Errorf("Unit shares its answer: %v", two)
	}
}

func TestQuestionsLeave(t *testing.T) { // P3.1, P3.2: what is asked alone changes nothing
	whole := []byte{0, 6, 1, 4, 5, 6, 7, 8}
	before := string(whole)
	r := vec.Row{Vec: whole[:3], Data: whole[4:6]}
	r.Lead()
	r.At(1)
	r.Zero()
	vec.Same(r, r)
	r.Less(2, vec.Row{Vec: whole[:2], Data: whole[4:6]})
	if string(whole) != before {
		t.Errorf("what was handed in was changed: %v", whole)
	}
}

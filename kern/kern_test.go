package kern_test

import (
	"bytes"
	"testing"

	"wellspring/api"
	"wellspring/field"
	"wellspring/kern"
)

// answer is what the calls with an error say; a list without elements is told as "".
type answer struct {
	row string
	err api.Errno
}

func of(row []byte, err api.Errno) answer { return answer{string(row), err} }

// unlike are lists of rows of which one hasn't the length of the first.
var unlike = [][][]byte{
	{{1}, {1, 2}},
	{{1, 2}, {1}},
	{{}, {1}},
	{{1}, {}},
	{nil, {1}},
	{{1, 2}, {3, 4}, {5}},
	{{1, 2}, {3, 4, 5}, {6, 7}},
}

// rows: some rows of a length, all bytes among them if it is long enough.
func rows(height, length int) [][]byte {
	l := make([][]byte, height)
	for i := range l {
		l[i] = make([]byte, length)
		for j := range l[i] {
			l[i][j] = byte(j*(2*i+1) + 31*i)
		}
	}
	return l
}

// comb: the combination, byte by byte by the field alone.
func comb(cs []byte, l [][]byte) string {
	sum := make([]byte, len(l[0]))
	for i, row := range l {
		for j, b := range row {
			sum[j] = field.Add(sum[j], field.Mul(cs[i], b))
		}
	}
	return string(sum)
}

func TestScale(t *testing.T) { // P2.1
	for _, length := range []int{1, 2, 15, 16, 17, 256, 1000} {
		row := rows(2, length)[1]
		for c := range 256 {
			want := comb([]byte{byte(c)}, [][]byte{row})
			if got := kern.Scale(byte(c), row); string(got) != want {
				t.Fatalf("Scale(%d) of %d bytes: %v, wanted %v", c, length, got, []byte(want))
			}
		}
	}
	if got := kern.Scale(5, nil); len(got) != 0 {
		t.Errorf("Scale of nil: %v", got)
	}
	if got := kern.Scale(5, []byte{}); len(got) != 0 {
		t.Errorf("Scale of no bytes: %v", got)
	}
}

func TestAxpy(t *testing.T) { // P2.1
	if got := of(kern.Axpy(2, []byte{1, 128}, []byte{0, 1})); got != of([]byte{2, 28}, api.OK) {
		t.Errorf("the example: %v", got)
	}
	for _, length := range []int{1, 16, 300} {
		l := rows(2, length)
		for c := range 256 {
			want := comb([]byte{byte(c), 1}, l)
			if got := of(kern.Axpy(byte(c), l[0], l[1])); got != (answer{want, api.OK}) {
				t.Fatalf("Axpy(%d) of %d bytes: %v", c, length, got)
			}
		}
	}
	if got := of(kern.Axpy(3, nil, []byte{})); got != of(nil, api.OK) {
		t.Errorf("Axpy of no bytes: %v", got)
	}
	for _, l := range unlike[:5] {
		if got := of(kern.Axpy(0, l[0], l[1])); got != of(nil, api.ErrSize) {
			t.Errorf("Axpy of %v: %v", l, got)
		}
	}
}

func TestZero(t *testing.T) { // P2.1
	for _, length := range []int{0, 1, 8, 100} {
		row := make([]byte, length)
		if !kern.Zero(row) {
			t.Errorf("Zero of %d noughts", length)
		}
		for i := range row {
			for _, b := range []byte{1, 2, 128, 255} {
				row[i] = b
				if kern.Zero(row) {
					t.Errorf("Zero, %d at %d of %d bytes", b, i, length)
				}
			}
			row[i] = 0
		}
	}
	if !kern.Zero(nil) {
		t.Error("Zero of nil")
	}
	if !kern.Zero([]byte{0, 0, 7}[:2]) {
		t.Error("Zero looks at spare room")
	}
}

func TestSum(t *testing.T) { // P2.2
	for _, length := range []int{1, 16, 300} {
		for height := 1; height < 6; height++ {
			l := rows(height, length)
			want := comb(bytes.Repeat([]byte{1}, height), l)
			if got := of(kern.Sum(l...)); got != (answer{want, api.OK}) {
				t.Errorf("Sum of %d rows of %d bytes: %v", height, length, got)
			}
		}
	}
	if got := of(kern.Sum()); got != of(nil, api.OK) {
		t.Errorf("Sum of no rows: %v", got)
	}
	if got := of(kern.Sum([]byte{}, nil, []byte{})); got != of(nil, api.OK) {
		t.Errorf("Sum of rows without bytes: %v", got)
	}
	for _, l := range unlike {
		if got := of(kern.Sum(l...)); got != of(nil, api.ErrSize) {
			t.Errorf("Sum of %v: %v", l, got)
		}
	}
}

func TestComb(t *testing.T) { // P2.2
	for _, length := range []int{1, 16, 300} {
		for height := 1; height < 6; height++ {
			l, cs := rows(height, length), []byte{0, 1, 2, 255, 29}[5-height:]
			if got := of(kern.Comb(cs, l...)); got != (answer{comb(cs, l), api.OK}) {
				t.Errorf("Comb by %v of rows of %d bytes: %v", cs, length, got)
			}
		}
	}
	if got := of(kern.Comb(nil)); got != of(nil, api.OK) {
		t.Errorf("Comb of no rows: %v", got)
	}
	if got := of(kern.Comb([]byte{7, 0}, []byte{}, nil)); got != of(nil, api.OK) {
		t.Errorf("Comb of rows without bytes: %v", got)
	}
}

func TestCombOfWrongSizes(t *testing.T) { // P2.2
	for _, l := range unlike {
		for height := range len(l) + 2 { // noughts, too: what adds nothing is looked at all the same
			if got := of(kern.Comb(make([]byte, height), l...)); got != of(nil, api.ErrSize) {
				t.Errorf("Comb by %d bytes of %v: %v", height, l, got)
			}
		}
	}
	for _, l := range [][][]byte{{}, {{}}, {{1}, {2}}, {{}, {}, {}}} {
		for height := range 5 {
			if height == len(l) {
				continue
			}
			if got := of(kern.Comb(make([]byte, height), l...)); got != of(nil, api.ErrSize) {
				t.Errorf("Comb by %d bytes of %d rows: %v", height, len(l), got)
			}
		}
	}
}

func TestDot(t *testing.T) { // P2.2
	for _, length := range []int{0, 1, 2, 300} {
		l := rows(2, length)
		want := byte(0)
		for i := range length {
			want = field.Add(want, field.Mul(l[0][i], l[1][i]))
		}
		if got, err := kern.Dot(l[0], l[1]); got != want || err != api.OK {
			t.Errorf("Dot of %d bytes: %d, %d, wanted %d", length, got, err, want)
		}
	}
	if got, err := kern.Dot(nil, []byte{}); got != 0 || err != api.OK {
		t.Errorf("Dot of no bytes: %d, %d", got, err)
	}
	for _, l := range unlike[:5] {
		if got, err := kern.Dot(l[0], l[1]); got != 0 || err != api.ErrSize {
			t.Errorf("Dot of %v: %d, %d", l, got, err)
		}
	}
}

func TestLinear(t *testing.T) { // P2.3
	cs := []byte{3, 0, 200, 1}
	a, b := rows(4, 64), rows(8, 64)[4:]
	both := make([][]byte, len(a))
	for i := range a {
		both[i], _ = kern.Sum(a[i], b[i])
	}
	ofSums, _ := kern.Comb(cs, both...)
	ofA, _ := kern.Comb(cs, a...)
	ofB, _ := kern.Comb(cs, b...)
	sum, _ := kern.Sum(ofA, ofB)
	if !bytes.Equal(ofSums, sum) || kern.Zero(sum) {
		t.Errorf("of sums %v, the sum %v", ofSums, sum)
	}
	for c := 1; c < 256; c++ {
		inverse, _ := field.Inv(byte(c))
		if got := kern.Scale(inverse, kern.Scale(byte(c), a[1])); !bytes.Equal(got, a[1]) {
			t.Errorf("scaled by %d and its inverse: %v", c, got)
		}
	}
}

// calls: each of the calls that answer a row, of two rows that are handed in.
var calls = map[string]func(x, y []byte) []byte{
	"Scale": func(x, y []byte) []byte { return kern.Scale(1, x) },
	"Axpy": func(x, y []byte) []byte {
		l, _ := kern.Axpy(0, x, y)
		return l
	},
	"Sum of one": func(x, y []byte) []byte {
		l, _ := kern.Sum(x)
		return l
	},
	"Sum": func(x, y []byte) []byte {
		l, _ := kern.Sum(x, y)
		return l
	},
	"Comb of one": func(x, y []byte) []byte {
		l, _ := kern.Comb(x[:1], y)
		return l
	},
	"Comb": func(x, y []byte) []byte {
		l, _ := kern.Comb(x[:2], x, y)
		return l
	},
}

func TestMemory(t *testing.T) { // P2.2: nothing that is handed in is changed, nor shared
	for name, call := range calls {
		whole := []byte{1, 2, 3, 4, 5, 6, 7, 8, 9, 10}
		before := string(whole)
		x, y := whole[:3], whole[4:7] // with spare room behind each
		got := call(x, y)
		first := string(got)
		if string(whole) != before {
			t.Errorf("%s changed what was handed in: %v", name, whole)
		}
		again := call(x, y)
		for i := range cap(got) {
			got[:cap(got)][i] ^= 255
		}
		if string(whole) != before || string(again) != first {
			t.Errorf("%s shares its answer", name)
		}
		for i := range whole {
			whole[i] ^= 255
		}
		if string(again) != first {
			t.Errorf("%s keeps what was handed in", name)
		}
	}
}

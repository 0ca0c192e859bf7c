package field_test

import (
	"math"
	"testing"

	"wellspring/api"
	"wellspring/field"
)

// answer is what the calls with an error say.
type answer struct {
	b   byte
	err api.Errno
}

func of(b byte, err api.Errno) answer { return answer{b, err} }

// product: by the definition, and in another way than the program's: the polynomials are multiplied as they are, and then divided by the modulus.
func product(a, b byte) byte {
	p := 0
	for i := 0; i < 8; i++ {
		if b>>i&1 == 1 {
			p ^= int(a) << i
		}
	}
	for i := 14; i >= 8; i-- {
		if p>>i&1 == 1 {
			p ^= 0x11D << (i - 8)
		}
	}
	return byte(p)
}

// eachPair: f is asked of all pairs of bytes.
func eachPair(f func(a, b byte)) {
	for a := range 256 {
		for b := range 256 {
			f(byte(a), byte(b))
		}
	}
}

func TestAdd(t *testing.T) { // P1.1
	if got := field.Add(); got != 0 {
		t.Errorf("Add of nothing: %d", got)
	}
	for a := range 256 {
		if got := field.Add(byte(a)); got != byte(a) {
			t.Errorf("Add(%d): %d", a, got)
		}
	}
	eachPair(func(a, b byte) {
		if got := field.Add(a, b); got != a^b {
			t.Errorf("Add(%d, %d): %d", a, b, got)
		}
		if got := field.Add(a, 0x5A, b, 0xC3); got != a^b^0x5A^0xC3 {
			t.Errorf("Add of four, %d and %d among them: %d", a, b, got)
		}
	})
}

func TestMul(t *testing.T) { // P1.1
	if got := field.Mul(); got != 1 {
		t.Errorf("Mul of nothing: %d", got)
	}
	for a := range 256 {
		if got := field.Mul(byte(a)); got != byte(a) {
			t.Errorf("Mul(%d): %d", a, got)
		}
	}
	eachPair(func(a, b byte) {
		if got := field.Mul(a, b); got != product(a, b) {
			t.Errorf("Mul(%d, %d): %d, wanted %d", a, b, got, product(a, b))
		}
		if got, want := field.Mul(a, 0x5A, b, 0xC3), product(product(product(a, 0x5A), b), 0xC3); got != want {
			t.Errorf("Mul of four, %d and %d among them: %d, wanted %d", a, b, got, want)
		}
	})
	if field.Mul(2, 128) != 29 || field.Mul(3, 3) != 5 {
		t.Errorf("2 times 128: %d, 3 times 3: %d", field.Mul(2, 128), field.Mul(3, 3))
	}
}

func TestListsAreLeft(t *testing.T) {
	l := []byte{3, 5, 7, 9}
	field.Add(l[:2]...)
	field.Mul(l[:2]...)
	if string(l) != "\x03\x05\x07\x09" {
		t.Errorf("what was handed in was changed: %v", l)
	}
}

func TestInv(t *testing.T) { // P1.1
	if got := of(field.Inv(0)); got != of(0, api.ErrZero) {
		t.Errorf("Inv(0): %v", got)
	}
	for a := 1; a < 256; a++ {
		got := of(field.Inv(byte(a)))
		if got.err != api.OK || product(got.b, byte(a)) != 1 {
			t.Errorf("Inv(%d): %v", a, got)
		}
	}
}

func TestDiv(t *testing.T) { // P1.1, P1.3
	eachPair(func(a, b byte) {
		got := of(field.Div(a, b))
		if b == 0 && got != of(0, api.ErrZero) {
			t.Errorf("Div(%d, 0): %v", a, got)
		}
		if b != 0 && (got.err != api.OK || product(got.b, b) != a) {
			t.Errorf("Div(%d, %d): %v", a, b, got)
		}
	})
}

func TestPow(t *testing.T) { // P1.2
	for a := range 256 {
		want := byte(1)
		for n := range 600 {
			if got := of(field.Pow(byte(a), n)); got != of(want, api.OK) {
				t.Fatalf("Pow(%d, %d): %v, wanted %d", a, n, got, want)
			}
			if n > 0 {
				checkBelow(t, byte(a), -n, want)
			}
			want = product(want, byte(a))
		}
	}
}

// checkBelow: to the power of n, below 0, a has the inverse of what it has to that of -n.
func checkBelow(t *testing.T, a byte, n int, opposite byte) {
	t.Helper()
	got := of(field.Pow(a, n))
	if a == 0 && got != of(0, api.ErrZero) {
		t.Fatalf("Pow(0, %d): %v", n, got)
	}
	if a != 0 && (got.err != api.OK || product(got.b, opposite) != 1) {
		t.Fatalf("Pow(%d, %d): %v, times %d isn't 1", a, n, got, opposite)
	}
}

// great are exponents at the ends of what an int can be, and which they are modulo 255: 2^8 is 1 then, so that 2^31 and 2^63 are 2^7.
var great = []struct{ n, rest int }{
	{math.MaxInt, 127},
	{math.MaxInt - 1, 126},
	{math.MaxInt - 127, 0},
	{math.MinInt, 127},
	{math.MinInt + 1, 128},
	{math.MinInt + 128, 0},
	{math.MinInt + 127, 254},
}

func TestPowOfGreatExponents(t *testing.T) { // P1.2
	for _, g := range great {
		for a := 1; a < 256; a++ {
			want := byte(1)
			for range g.rest {
				want = product(want, byte(a))
			}
			if got := of(field.Pow(byte(a), g.n)); got != of(want, api.OK) {
				t.Errorf("Pow(%d, %d): %v, wanted %d", a, g.n, got, want)
			}
		}
		want := of(0, api.OK)
		if g.n < 0 {
			want = of(0, api.ErrZero)
		}
		if got := of(field.Pow(0, g.n)); got != want {
			t.Errorf("Pow(0, %d): %v, wanted %v", g.n, got, want)
		}
	}
}

func TestPowOfNought(t *testing.T) { // P1.2
	if got := of(field.Pow(0, 0)); got != of(1, api.OK) {
		t.Errorf("Pow(0, 0): %v", got)
	}
	if got := of(field.Pow(0, 255)); got != of(0, api.OK) {
		t.Errorf("Pow(0, 255): %v", got)
	}
	if got := of(field.Pow(0, -255)); got != of(0, api.ErrZero) {
		t.Errorf("Pow(0, -255): %v", got)
	}
}

func TestExp(t *testing.T) { // P1.2
	want := byte(1)
	for n := range 255 {
		for _, turn := range []int{0, 255, 510, -255, -510} {
			if got := field.Exp(n + turn); got != want {
				t.Errorf("Exp(%d): %d, wanted %d", n+turn, got, want)
			}
		}
		want = product(want, 2)
	}
	for _, g := range great {
		if got := field.Exp(g.n); got != field.Exp(g.rest) {
			t.Errorf("Exp(%d): %d, wanted %d", g.n, got, field.Exp(g.rest))
		}
	}
}

func TestLog(t *testing.T) { // P1.2
	if n, err := field.Log(0); n != 0 || err != api.ErrZero {
		t.Errorf("Log(0): %d, %d", n, err)
	}
	seen := map[int]bool{}
	for a := 1; a < 256; a++ {
		n, err := field.Log(byte(a))
		if err != api.OK || n < 0 || n > 254 || field.Exp(n) != byte(a) {
			t.Errorf("Log(%d): %d, %d", a, n, err)
		}
		seen[n] = true
	}
	if len(seen) != 255 {
		t.Errorf("%d logarithms, wanted 255", len(seen))
	}
}

func TestField(t *testing.T) { // P1.3
	eachPair(func(a, b byte) {
		if field.Add(a, b) != field.Add(b, a) || field.Mul(a, b) != field.Mul(b, a) {
			t.Errorf("%d and %d the other way round", a, b)
		}
		for c := range 256 {
			checkThree(t, a, b, byte(c))
		}
		if b != 0 {
			quotient, _ := field.Div(a, b)
			if field.Mul(quotient, b) != a {
				t.Errorf("%d by %d, times %d", a, b, b)
			}
		}
	})
}

// checkThree looks at every 17th c alone, another one for each a and b: all three in full take long.
func checkThree(t *testing.T, a, b, c byte) {
	if (a^b^c)%17 != 0 {
		return
	}
	if field.Add(field.Add(a, b), c) != field.Add(a, field.Add(b, c)) {
		t.Errorf("sums of %d, %d, %d", a, b, c)
	}
	if field.Mul(field.Mul(a, b), c) != field.Mul(a, field.Mul(b, c)) {
		t.Errorf("products of %d, %d, %d", a, b, c)
	}
	if field.Mul(a, field.Add(b, c)) != field.Add(field.Mul(a, b), field.Mul(a, c)) {
		t.Errorf("%d times the sum of %d and %d", a, b, c)
	}
}

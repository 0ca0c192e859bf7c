package nat_test

import (
	"math"
	"math/big"
	"strings"
	"testing"

	"wellspring/api"
	"wellspring/nat"
)

// said is a number as its text, and the error beside it.
type said struct {
	text string
	err  api.Errno
}

func of(a nat.Nat, err api.Errno) said { return said{a.Text(), err} }

// told: the answer that a whole number is, of the second way of reckoning; of one that is too great, or below 0, what error.
func told(n *big.Int) said {
	switch {
	case n.Sign() < 0:
		return said{"0", api.ErrRange}
	case n.BitLen() > 8*api.MaxNat:
		return said{"0", api.ErrLong}
	}
	return said{n.Text(16), api.OK}
}

// parsed: the number of a text that is one.
func parsed(t *testing.T, s string) nat.Nat {
	t.Helper()
	a, err := nat.Parse(s)
	if err != api.OK {
		t.Fatalf("Parse of %d digits: error %d", len(s), err)
	}
	return a
}

// whole: the same text as a number of the second way of reckoning.
func whole(s string) *big.Int {
	n, _ := new(big.Int).SetString(s, 16)
	return n
}

// power: 1 and n noughts, base 16.
func power(n int) string { return "1" + strings.Repeat("0", n) }

// greatest: the number just below the bound.
var greatest = strings.Repeat("f", 2*api.MaxNat)

// texts are of numbers of all lengths about the ends of words, of all digits, and at the bound.
func texts() []string {
	l := []string{"0", "1", "2", "9", "a", "f", "10", "ff", "100", "fe01", "123456789abcdef", "fedcba9876543210", "10000000000000001", "ffffffff00000000ffffffff", greatest, power(2*api.MaxNat - 1), greatest[1:], "8" + greatest[1:]}
	for _, n := range []int{14, 15, 16, 17, 30, 31, 32, 33, 47, 48, 49, 200} {
		l = append(l, power(n), strings.Repeat("f", n), "7"+strings.Repeat("93ab", n), power(n)[:n]+"1", strings.Repeat("f", n)+"0")
	}
	return l
}

// pairs: f is asked of all pairs of texts.
func pairs(f func(a, b string)) {
	for _, a := range texts() {
		for _, b := range texts() {
			f(a, b)
		}
	}
}

func TestOf(t *testing.T) { // P6.1
	for n, want := range map[uint64]string{
		0: "0", 1: "1", 9: "9", 10: "a", 15: "f", 16: "10", 255: "ff", 256: "100", 0xABCDEF: "abcdef",
		1 << 32: "100000000", 1 << 63: "8000000000000000", math.MaxUint64: "ffffffffffffffff", 0x0123456789ABCDEF: "123456789abcdef",
	} {
		if got := nat.Of(n).Text(); got != want {
			t.Errorf("Of(%d): %s, wanted %s", n, got, want)
		}
	}
}

func TestText(t *testing.T) { // P6.1
	for _, s := range texts() {
		if got := of(nat.Parse(s)); got != (said{s, api.OK}) {
			t.Errorf("%.40s there and back: %.40s, error %d", s, got.text, got.err)
		}
	}
	if got := (nat.Nat{}).Text(); got != "0" {
		t.Errorf("the zero Nat: %s", got)
	}
	small, _ := parsed(t, power(40)).Sub(parsed(t, strings.Repeat("f", 40)))
	if got := small.Text(); got != "1" {
		t.Errorf("a small one out of great ones: %s", got)
	}
}

func TestParseOfNoNumbers(t *testing.T) { // P6.1
	for _, s := range []string{
		"", " ", "00", "01", "0f", "000000000000000000000000", "00ff", "0" + greatest, // needless noughts
		"A", "FF", "aF", "Fa", "g", "1g", "g1", "0x1", "x", "`", "/", ":", "@", "1\x002",
		"-1", "-0", "+1", "1_0", "1.0", "1e+2", " 1", "1 ", "1\n", "\n", "1,000",
		"é", "1é", "\xFF", "1\x80", "1\u0660", "\uFF11",
		"zero", greatest + "g", "g" + greatest, power(2*api.MaxNat) + " ", // too great, if they were any
		strings.Repeat("0", 2*api.MaxNat+1), strings.Repeat("g", 3*api.MaxNat),
	} {
		if got := of(nat.Parse(s)); got != (said{"0", api.ErrForm}) {
			t.Errorf("Parse of %.20q, %d bytes: %.20s, error %d", s, len(s), got.text, got.err)
		}
	}
	for c := range 256 {
		l := []byte{'1', '2', byte(c), '3', '4'}
		want := said{"0", api.ErrForm}
		if strings.IndexByte("0123456789abcdef", byte(c)) >= 0 {
			want = said{string(l), api.OK}
		}
		if got := of(nat.Parse(string(l))); got != want {
			t.Errorf("Parse(%q): %v, wanted %v", l, got, want)
		}
	}
}

func TestParseAtTheBound(t *testing.T) { // P6.1
	for _, s := range []string{greatest, power(2*api.MaxNat - 1), "1" + greatest[1:]} {
		if got := of(nat.Parse(s)); got != (said{s, api.OK}) {
			t.Errorf("Parse of %d digits: %d digits, error %d", len(s), len(got.text), got.err)
		}
	}
	for _, s := range []string{power(2 * api.MaxNat), "1" + greatest, greatest + "0", greatest + greatest, power(100000)} {
		if got := of(nat.Parse(s)); got != (said{"0", api.ErrLong}) {
			t.Errorf("Parse of %d digits: %.20s, error %d", len(s), got.text, got.err)
		}
	}
}

func TestCmp(t *testing.T) { // P6.1
	pairs(func(a, b string) {
		want := whole(a).Cmp(whole(b))
		if got := parsed(t, a).Cmp(parsed(t, b)); got != want {
			t.Errorf("Cmp of %.40s and %.40s: %d, wanted %d", a, b, got, want)
		}
	})
	if (nat.Nat{}).Cmp(nat.Of(0)) != 0 || nat.Of(0).Cmp(nat.Nat{}) != 0 || (nat.Nat{}).Cmp(nat.Of(1)) != -1 || nat.Of(1).Cmp(nat.Nat{}) != 1 {
		t.Error("Cmp of the zero Nat")
	}
	pairs(func(a, b string) { // however a number was come to
		sum, err := nat.Add(parsed(t, a), parsed(t, b))
		if err != api.OK {
			return
		}
		rest, _ := sum.Sub(parsed(t, b))
		if rest.Cmp(parsed(t, a)) != 0 || parsed(t, a).Cmp(rest) != 0 {
			t.Errorf("%.40s with and without %.40s isn't the same", a, b)
		}
	})
}

func TestLen(t *testing.T) { // P6.1
	for _, s := range texts() {
		want := (whole(s).BitLen() + 7) / 8
		if got := parsed(t, s).Len(); got != want {
			t.Errorf("Len of %.40s: %d, wanted %d", s, got, want)
		}
	}
	if (nat.Nat{}).Len() != 0 || nat.Of(0).Len() != 0 || nat.Of(255).Len() != 1 || nat.Of(256).Len() != 2 {
		t.Error("Len of 0, 255, 256")
	}
	for n := 1; n <= api.MaxNat; n++ {
		if got := parsed(t, power(2*n-2)).Len(); got != n {
			t.Fatalf("Len of 256 to the %d: %d", n-1, got)
		}
	}
}

func TestAdd(t *testing.T) { // P6.2
	pairs(func(a, b string) {
		want := told(new(big.Int).Add(whole(a), whole(b)))
		if got := of(nat.Add(parsed(t, a), parsed(t, b))); got != want {
			t.Errorf("%.40s and %.40s: %.40s, error %d, wanted %.40s", a, b, got.text, got.err, want.text)
		}
	})
	for _, s := range texts() {
		if got := of(nat.Add(parsed(t, s))); got != (said{s, api.OK}) {
			t.Errorf("Add of %.40s alone: %.40s, error %d", s, got.text, got.err)
		}
	}
}

func TestAddOfMany(t *testing.T) { // P6.2
	if got := of(nat.Add()); got != (said{"0", api.OK}) {
		t.Errorf("Add of none: %v", got)
	}
	if got := of(nat.Add(nat.Nat{}, nat.Of(0), nat.Nat{})); got != (said{"0", api.OK}) {
		t.Errorf("Add of noughts: %v", got)
	}
	var l []nat.Nat
	sum := new(big.Int)
	for _, s := range texts() {
		if len(s) < 1000 {
			l = append(l, parsed(t, s))
			sum.Add(sum, whole(s))
		}
	}
	if got := of(nat.Add(l...)); got != told(sum) {
		t.Errorf("Add of %d: %v, wanted %v", len(l), got, told(sum))
	}
}

func TestMul(t *testing.T) { // P6.2
	pairs(func(a, b string) {
		want := told(new(big.Int).Mul(whole(a), whole(b)))
		if got := of(nat.Mul(parsed(t, a), parsed(t, b))); got != want {
			t.Errorf("%.40s times %.40s: %.40s, error %d, wanted %.40s", a, b, got.text, got.err, want.text)
		}
	})
	for _, s := range texts() {
		if got := of(nat.Mul(parsed(t, s))); got != (said{s, api.OK}) {
			t.Errorf("Mul of %.40s alone: %.40s, error %d", s, got.text, got.err)
		}
	}
}

func TestMulOfMany(t *testing.T) { // P6.2
	if got := of(nat.Mul()); got != (said{"1", api.OK}) {
		t.Errorf("Mul of none: %v", got)
	}
	if got := of(nat.Mul(nat.Of(255), nat.Of(255))); got != (said{"fe01", api.OK}) {
		t.Errorf("the example: %v", got)
	}
	var l []nat.Nat
	product := big.NewInt(1)
	for n := uint64(1); n < 1000; n++ {
		l = append(l, nat.Of(n*n*n+7))
		product.Mul(product, new(big.Int).SetUint64(n*n*n+7))
	}
	if got := of(nat.Mul(l...)); got != told(product) || got.err != api.OK {
		t.Errorf("Mul of %d: %.40s, error %d", len(l), got.text, got.err)
	}
}

func TestTheBound(t *testing.T) { // P6.2
	top, one, two, none := parsed(t, greatest), nat.Of(1), nat.Of(2), nat.Nat{}
	below := parsed(t, greatest[1:]+"e")
	half, long := parsed(t, power(api.MaxNat)), said{"0", api.ErrLong}
	for name, c := range map[string]struct{ got, want said }{
		"the greatest, and 0":               {of(nat.Add(top, none)), said{greatest, api.OK}},
		"0, and the greatest":               {of(nat.Add(none, none, top)), said{greatest, api.OK}},
		"the greatest, and 1":               {of(nat.Add(top, one)), long},
		"1, and the greatest":               {of(nat.Add(one, top)), long},
		"1, the greatest, 0":                {of(nat.Add(one, top, none)), long},
		"the greatest, twice":               {of(nat.Add(top, top)), long},
		"the greatest, 20 times":            {of(nat.Add(top, top, top, top, top, top, top, top, top, top, top, top, top, top, top, top, top, top, top, top)), long},
		"the greatest, once":                {of(nat.Mul(top, one)), said{greatest, api.OK}},
		"the greatest, times 2":             {of(nat.Mul(top, two)), long},
		"the greatest, by itself":           {of(nat.Mul(top, top)), long},
		"the greatest, times 0":             {of(nat.Mul(top, none)), said{"0", api.OK}},
		"0 ahead of what is too great":      {of(nat.Mul(none, top, top)), said{"0", api.OK}},
		"0 behind what is too great":        {of(nat.Mul(top, top, none)), long},
		"0 further behind it":               {of(nat.Mul(one, half, one, half, one, none, one)), long},
		"the bound, of halves":              {of(nat.Mul(half, half)), long},
		"half of the bound, times a half":   {of(nat.Mul(half, parsed(t, power(api.MaxNat-1)))), said{power(2*api.MaxNat - 1), api.OK}},
		"one less than the greatest, and 1": {of(nat.Add(below, one)), said{greatest, api.OK}},
		"as great as can be, of halves":     {of(nat.Mul(parsed(t, strings.Repeat("f", api.MaxNat)), parsed(t, power(api.MaxNat-1)+"1"))), said{greatest, api.OK}},
		"the greatest, of two parts":        {of(nat.Add(parsed(t, greatest[1:]), parsed(t, "f"+strings.Repeat("0", 2*api.MaxNat-1)))), said{greatest, api.OK}},
		"the greatest less one less":        {of(top.Sub(below)), said{"1", api.OK}},
		"the greatest less itself":          {of(top.Sub(top)), said{"0", api.OK}},
		"the greatest less 0":               {of(top.Sub(none)), said{greatest, api.OK}},
	} {
		if c.got != c.want {
			t.Errorf("%s: %d digits, error %d, wanted %d digits, error %d", name, len(c.got.text), c.got.err, len(c.want.text), c.want.err)
		}
	}
}

func TestSub(t *testing.T) { // P6.2
	pairs(func(a, b string) {
		want := told(new(big.Int).Sub(whole(a), whole(b)))
		if got := of(parsed(t, a).Sub(parsed(t, b))); got != want {
			t.Errorf("%.40s less %.40s: %.40s, error %d, wanted %.40s", a, b, got.text, got.err, want.text)
		}
	})
	if got := of(nat.Nat{}.Sub(nat.Nat{})); got != (said{"0", api.OK}) {
		t.Errorf("0 less 0: %v", got)
	}
	if got := of(nat.Nat{}.Sub(nat.Of(1))); got != (said{"0", api.ErrRange}) {
		t.Errorf("0 less 1: %v", got)
	}
}

func TestPow(t *testing.T) { // P6.2
	for _, a := range []uint64{0, 1, 2, 3, 10, 16, 255, 256, 257, 1 << 32, math.MaxUint64} {
		want := big.NewInt(1)
		for n := range 70 {
			if got := of(nat.Of(a).Pow(n)); got != told(want) {
				t.Errorf("%d to the %d: %v, wanted %v", a, n, got, told(want))
			}
			want.Mul(want, new(big.Int).SetUint64(a))
		}
	}
	if got := of(parsed(t, greatest).Pow(1)); got != (said{greatest, api.OK}) {
		t.Errorf("the greatest, taken once: %d digits, error %d", len(got.text), got.err)
	}
	if got := of(parsed(t, greatest).Pow(0)); got != (said{"1", api.OK}) {
		t.Errorf("the greatest, never taken: %.20s, error %d", got.text, got.err)
	}
	if got := of(nat.Nat{}.Pow(0)); got != (said{"1", api.OK}) {
		t.Errorf("0 to the 0: %v", got)
	}
}

func TestPowAtTheBound(t *testing.T) { // P6.2: the last power that there is, and the first one that there isn't
	for _, c := range []struct {
		a    string
		last int
	}{
		{"2", 8*api.MaxNat - 1}, {"3", 20674}, {"10", 2*api.MaxNat - 1}, {"100", api.MaxNat - 1}, {"ff", 4098},
		{"10000000000000000", api.MaxNat/8 - 1}, {"ffffffffffffffff", api.MaxNat / 8},
		{power(api.MaxNat - 1), 2}, {power(api.MaxNat), 1}, {strings.Repeat("f", api.MaxNat), 2}, {greatest, 1},
	} {
		want := told(new(big.Int).Exp(whole(c.a), big.NewInt(int64(c.last)), nil))
		if got := of(parsed(t, c.a).Pow(c.last)); got != want || got.err != api.OK {
			t.Errorf("%.20s to the %d: %d digits, error %d", c.a, c.last, len(got.text), got.err)
		}
		for _, n := range []int{c.last + 1, c.last + 2, 8 * api.MaxNat, api.MaxCells} {
			if got := of(parsed(t, c.a).Pow(n)); got != (said{"0", api.ErrLong}) {
				t.Errorf("%.20s to the %d: %.20s, error %d", c.a, n, got.text, got.err)
			}
		}
	}
}

func TestPowOfWrongNumbers(t *testing.T) { // P6.2
	for _, s := range texts() {
		for _, n := range []int{-1, -2, -api.MaxCells, math.MinInt} {
			if got := of(parsed(t, s).Pow(n)); got != (said{"0", api.ErrRange}) {
				t.Errorf("%.20s to the %d: %.20s, error %d", s, n, got.text, got.err)
			}
		}
	}
	for _, n := range []int{api.MaxCells + 1, api.MaxCells + 2, math.MaxInt} {
		for a := range uint64(2) { // what never is too great is refused for n alone
			if got := of(nat.Of(a).Pow(n)); got != (said{"0", api.ErrRange}) {
				t.Errorf("%d to the %d: %v", a, n, got)
			}
		}
		for _, s := range []string{"2", "100", greatest} { // ErrLong is named ahead of ErrRange
			if got := of(parsed(t, s).Pow(n)); got != (said{"0", api.ErrLong}) {
				t.Errorf("%.20s to the %d: %.20s, error %d", s, n, got.text, got.err)
			}
		}
	}
	for a := range uint64(2) {
		want := said{nat.Of(a).Text(), api.OK}
		if got := of(nat.Of(a).Pow(api.MaxCells)); got != want {
			t.Errorf("%d to the %d: %v", a, api.MaxCells, got)
		}
	}
}

func TestWholeNumbers(t *testing.T) { // P6.3
	pairs(func(s, u string) {
		a, b := parsed(t, s), parsed(t, u)
		sum, err := nat.Add(a, b)
		if got := of(nat.Add(b, a)); got != of(sum, err) {
			t.Errorf("%.40s and %.40s the other way round", s, u)
		}
		if got := of(nat.Mul(b, a)); got != of(nat.Mul(a, b)) {
			t.Errorf("%.40s times %.40s the other way round", s, u)
		}
		if err != api.OK {
			return
		}
		if got := of(sum.Sub(b)); got != (said{s, api.OK}) {
			t.Errorf("%.40s, and %.40s, less that: %.40s, error %d", s, u, got.text, got.err)
		}
		if got := of(sum.Sub(a)); got != (said{u, api.OK}) {
			t.Errorf("%.40s, and %.40s, less the first: %.40s, error %d", s, u, got.text, got.err)
		}
	})
}

func TestProductsOfSums(t *testing.T) { // P6.3
	c := parsed(t, "7fffffffffffffff8000000000000001")
	pairs(func(s, u string) {
		if len(s) > 1000 || len(u) > 1000 {
			return
		}
		a, b := parsed(t, s), parsed(t, u)
		sum, _ := nat.Add(a, b)
		ac, _ := nat.Mul(a, c)
		bc, _ := nat.Mul(b, c)
		if got, want := of(nat.Mul(sum, c)), of(nat.Add(ac, bc)); got != want || got.err != api.OK {
			t.Errorf("the sum of %.40s and %.40s, multiplied: %v, wanted %v", s, u, got, want)
		}
		ab, _ := nat.Mul(a, b)
		if got, want := of(nat.Mul(a, bc)), of(nat.Mul(ab, c)); got != want || got != of(nat.Mul(a, b, c)) {
			t.Errorf("%.40s and %.40s, multiplied: %v, wanted %v", s, u, got, want)
		}
	})
}

func TestValues(t *testing.T) { // what is reckoned with stays as it was
	l := []nat.Nat{parsed(t, strings.Repeat("f", 40)), nat.Of(255), nat.Of(0), parsed(t, greatest), {}}
	var before []string
	for _, a := range l {
		before = append(before, a.Text())
	}
	part := l[:3]
	nat.Add(part...)
	nat.Mul(part[:2]...)
	nat.Add(l...)
	nat.Mul(l...)
	for _, a := range l {
		one, _ := nat.Add(a)
		once, _ := a.Pow(1)
		same, _ := a.Sub(nat.Of(0))
		for _, b := range l {
			nat.Add(one, b)
			once.Sub(b)
			nat.Mul(same, b)
			a.Cmp(b)
		}
		a.Pow(3)
	}
	for i, a := range l {
		if got := a.Text(); got != before[i] {
			t.Errorf("%.40s became %.40s", before[i], got)
		}
	}
}

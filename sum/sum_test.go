package sum_test

import (
	"testing"

	"wellspring/api"
	"wellspring/sum"
)

// number is what Get says.
type number struct {
	n   uint32
	err api.Errno
}

func of(n uint32, err api.Errno) number { return number{n, err} }

// bitByBit: the sum, by the chapter's words.
func bitByBit(l []byte) uint32 {
	register := uint32(0xFFFFFFFF)
	for _, b := range l {
		register ^= uint32(b)
		for range 8 {
			out := register & 1
			register >>= 1
			if out == 1 {
				register ^= 0xEDB88320
			}
		}
	}
	return ^register
}

// long: so many bytes, of all kinds.
func long(length int) []byte {
	l := make([]byte, length)
	for i := range l {
		l[i] = byte(i*i>>3 + i*29 + 5)
	}
	return l
}

func TestOf(t *testing.T) { // P4.1
	for _, c := range []struct {
		parts [][]byte
		want  uint32
	}{
		{nil, 0},
		{[][]byte{{}}, 0},
		{[][]byte{nil, {}, nil}, 0},
		{[][]byte{[]byte("123456789")}, 0xCBF43926},
		{[][]byte{[]byte("1234"), []byte("56789")}, 0xCBF43926},
		{[][]byte{[]byte("56789"), []byte("1234")}, bitByBit([]byte("567891234"))},
		{[][]byte{nil, []byte("1"), {}, []byte("2345678"), nil, []byte("9"), {}}, 0xCBF43926},
		{[][]byte{{0}}, 0xD202EF8D},
		{[][]byte{{0, 0, 0, 0}}, 0x2144DF1C},
		{[][]byte{{255, 255, 255, 255}}, 0xFFFFFFFF},
		{[][]byte{[]byte("123456789")[:3]}, bitByBit([]byte("123"))},
	} {
		if got := sum.Of(c.parts...); got != c.want {
			t.Errorf("Of(%v): %X, wanted %X", c.parts, got, c.want)
		}
	}
}

func TestOfAllBytes(t *testing.T) { // P4.1
	for a := range 256 {
		for b := range 256 {
			l := []byte{byte(a), byte(b)}
			if got, want := sum.Of(l), bitByBit(l); got != want {
				t.Fatalf("Of(%v): %X, wanted %X", l, got, want)
			}
		}
		if got, want := sum.Of([]byte{byte(a)}), bitByBit([]byte{byte(a)}); got != want {
			t.Fatalf("Of(%d): %X, wanted %X", a, got, want)
		}
	}
	for _, length := range []int{3, 4, 5, 31, 32, 33, 1000, api.MaxPacket} {
		if got, want := sum.Of(long(length)), bitByBit(long(length)); got != want {
			t.Errorf("Of %d bytes: %X, wanted %X", length, got, want)
		}
	}
}

func TestStart(t *testing.T) { // P4.1
	for name, r := range map[string]sum.Running{
		"Start":           sum.Start(),
		"With no parts":   sum.Start().With(),
		"With no bytes":   sum.Start().With(nil, []byte{}).With([]byte{}),
		"With none again": sum.Start().With().With(),
	} {
		if got := r.Sum(); got != 0 {
			t.Errorf("%s: %X", name, got)
		}
		if got := r.With([]byte("123456789")).Sum(); got != 0xCBF43926 {
			t.Errorf("%s, and the digits behind: %X", name, got)
		}
	}
}

func TestWith(t *testing.T) { // P4.1, P4.3
	l := long(70)
	whole := bitByBit(l)
	for i := range len(l) + 1 {
		for j := i; j <= len(l); j++ {
			if got := sum.Of(l[:i], l[i:j], l[j:]); got != whole {
				t.Fatalf("cut at %d and %d: %X, wanted %X", i, j, got, whole)
			}
			if got := sum.Start().With(l[:i]).With(l[i:j], l[j:]).Sum(); got != whole {
				t.Fatalf("running, cut at %d and %d: %X, wanted %X", i, j, got, whole)
			}
		}
	}
	r := sum.Start()
	for i := range l {
		r = r.With(l[i : i+1])
		if got, want := r.Sum(), bitByBit(l[:i+1]); got != want {
			t.Fatalf("running, behind %d bytes: %X, wanted %X", i+1, got, want)
		}
	}
}

func TestRunningIsAValue(t *testing.T) { // P4.1
	r := sum.Start().With([]byte("1234"))
	one, other := r.With([]byte("56789")), r.With([]byte("x"))
	if got := one.Sum(); got != 0xCBF43926 {
		t.Errorf("one way on: %X", got)
	}
	if got, want := other.Sum(), bitByBit([]byte("1234x")); got != want {
		t.Errorf("another way on: %X, wanted %X", got, want)
	}
	if got, want := r.Sum(), bitByBit([]byte("1234")); got != want {
		t.Errorf("what went on: %X, wanted %X", got, want)
	}
	if one.Sum() != one.Sum() || one.With([]byte("0")).Sum() != bitByBit([]byte("1234567890")) {
		t.Error("Sum ended it")
	}
}

func TestPut(t *testing.T) { // P4.2
	for n, want := range map[uint32]string{
		0:          "\x00\x00\x00\x00",
		1:          "\x01\x00\x00\x00",
		0x01020304: "\x04\x03\x02\x01",
		0x80000000: "\x00\x00\x00\x80",
		0xCBF43926: "\x26\x39\xF4\xCB",
		0xFFFFFFFF: "\xFF\xFF\xFF\xFF",
	} {
		if got := sum.Put(n); string(got) != want {
			t.Errorf("Put(%X): %v", n, got)
		}
		if got := of(sum.Get([]byte(want))); got != of(n, api.OK) {
			t.Errorf("Get(%q): %v, wanted %X", want, got, n)
		}
	}
	for i := range 32 {
		n := uint32(1) << i
		want := make([]byte, 4)
		want[i/8] = 1 << (i % 8)
		if got := sum.Put(n); string(got) != string(want) {
			t.Errorf("Put(%X): %v", n, got)
		}
		if got := of(sum.Get(want)); got != of(n, api.OK) {
			t.Errorf("Get(%v): %v, wanted %X", want, got, n)
		}
	}
}

func TestGetOfWrongSizes(t *testing.T) { // P4.2
	l := []byte{4, 3, 2, 1, 0, 0, 0, 0, 0}
	for n := range len(l) + 1 {
		want := of(0, api.ErrSize)
		if n == 4 {
			want = of(0x01020304, api.OK)
		}
		if got := of(sum.Get(l[:n])); got != want {
			t.Errorf("Get of %d bytes: %v, wanted %v", n, got, want)
		}
	}
	for _, l := range [][]byte{nil, make([]byte, 3), make([]byte, api.MaxPacket)} {
		if got := of(sum.Get(l)); got != of(0, api.ErrSize) {
			t.Errorf("Get of %d bytes: %v", len(l), got)
		}
	}
}

// patterns: bits that are turned together, the first of them always: the first and the last one alone, and all, of each width up to 32; and some of all kinds.
func patterns() []uint32 {
	l := []uint32{0xEDB88321, 0xDB710641, 0xFFFFFFFF, 0x80000001, 0x04C11DB7, 0x55555555}
	for width := range 32 {
		l = append(l, 1|uint32(1)<<width, uint32(2)<<width-1)
	}
	for n := uint32(1); n < 1<<12; n += 2 {
		l = append(l, n, 1|n*0x9E3779B1)
	}
	return l
}

// turned: l with the bits of the pattern turned, its first one at the place. The lowest bit of a byte is its first, as the register shifts.
func turned(l []byte, pattern uint32, place int) []byte {
	harmed := append([]byte(nil), l...)
	for i := range 32 {
		if pattern>>i&1 == 1 {
			harmed[(place+i)/8] ^= 1 << ((place + i) % 8)
		}
	}
	return harmed
}

func TestBursts(t *testing.T) { // P4.3
	l := long(24)
	whole := sum.Of(l)
	for _, pattern := range patterns() {
		for place := 0; place+32 <= 8*len(l); place += 3 {
			if sum.Of(turned(l, pattern, place)) == whole {
				t.Fatalf("%X turned at the bit %d has the same sum", pattern, place)
			}
		}
	}
}

func TestBurstsWithTheSumBehind(t *testing.T) { // P4.3: as it stands behind packets
	l := long(20)
	sent := append(l, sum.Put(sum.Of(l))...)
	for _, pattern := range patterns() {
		for place := 0; place+32 <= 8*len(sent); place += 7 {
			harmed := turned(sent, pattern, place)
			n, err := sum.Get(harmed[20:])
			if err != api.OK || sum.Of(harmed[:20]) == n {
				t.Fatalf("%X turned at the bit %d is still whole", pattern, place)
			}
		}
	}
}

func TestMemory(t *testing.T) {
	whole := []byte("123456789")
	r := sum.Start().With(whole[:4], whole[4:])
	sum.Of(whole[:3], whole[5:])
	sum.Get(whole[2:6])
	if string(whole) != "123456789" {
		t.Errorf("what was handed in was changed: %q", whole)
	}
	clear(whole)
	if got := r.Sum(); got != 0xCBF43926 {
		t.Errorf("a running sum keeps what was handed in: %X", got)
	}
	one, other := sum.Put(7), sum.Put(7)
	clear(one[:cap(one)])
	if string(other) != "\x07\x00\x00\x00" {
		t.Errorf("Put shares its answer: %v", other)
	}
}

package mix_test

import (
	"math"
	"math/big"
	"testing"

	"wellspring/api"
	"wellspring/mix"
)

// said is what the calls with bytes say; a list without elements is told as "".
type said struct {
	l   string
	err api.Errno
}

func of(l []byte, err api.Errno) said { return said{string(l), err} }

// seeds are of all kinds; from the great ones on the state wraps round.
func seeds() []uint64 {
	l := []uint64{0, 1, 2, 255, 256, 1234567, 1 << 31, 1 << 32, 1 << 63, 1<<63 - 1, math.MaxUint64, math.MaxUint64 - 1, 0x9E3779B97F4A7C15, 0x61C8864680B583EB, 0x61C8864680B583EA}
	for i := range 64 {
		l = append(l, uint64(1)<<i, ^(uint64(1) << i), uint64(i)*0xD6E8FEB86659FD93)
	}
	return l
}

// modulus is 2^64.
var modulus = new(big.Int).Lsh(big.NewInt(1), 64)

// folded: z combined with itself, shifted, times a number, by the chapter's words and numbers of any length.
func folded(z *big.Int, shift uint, times string) *big.Int {
	factor, _ := new(big.Int).SetString(times, 16)
	z = new(big.Int).Xor(z, new(big.Int).Rsh(z, shift))
	return z.Mod(z.Mul(z, factor), modulus)
}

// number: the i-th number of a seed, from 1 on, by the chapter's words.
func number(seed uint64, i int) uint64 {
	step, _ := new(big.Int).SetString("9E3779B97F4A7C15", 16)
	z := step.Mul(step, big.NewInt(int64(i)))
	z.Mod(z.Add(z, new(big.Int).SetUint64(seed)), modulus)
	z = folded(z, 30, "BF58476D1CE4E5B9")
	z = folded(z, 27, "94D049BB133111EB")
	return folded(z, 31, "1").Uint64()
}

// stream: the first n bytes of a seed, by the chapter's words.
func stream(seed uint64, n int) string {
	var l []byte
	for i := 1; len(l) < n; i++ {
		z := number(seed, i)
		for range 8 {
			l = append(l, byte(z%256))
			z /= 256
		}
	}
	return string(l[:n])
}

func TestNext(t *testing.T) { // P5.1
	m := mix.New(0)
	for i, want := range []uint64{0xE220A8397B1DCDAF, 0x6E789E6AA1B965F4, 0x06C45D188009454F, 0xF88BB8A8724C81EC, 0x1B39896A51A8749B} {
		if got := m.Next(); got != want {
			t.Errorf("of the seed 0 the number %d: %X, wanted %X", i, got, want)
		}
	}
	for _, seed := range seeds() {
		m := mix.New(seed)
		for i := 1; i <= 40; i++ {
			if got, want := m.Next(), number(seed, i); got != want {
				t.Fatalf("of the seed %X the number %d: %X, wanted %X", seed, i, got, want)
			}
		}
	}
}

func TestBytes(t *testing.T) { // P5.1: what is left of the last number is never told
	for _, n := range []int{0, 1, 2, 3, 7, 8, 9, 15, 16, 17, 255, 256, 257, 4095} {
		for _, seed := range []uint64{0, 77, math.MaxUint64} {
			m := mix.New(seed)
			m.Next()
			m.Next()
			want := stream(seed, 16+n)[16:]
			if got := of(m.Bytes(n)); got != (said{want, api.OK}) {
				t.Errorf("Bytes(%d) of %X: %d bytes, error %d", n, seed, len(got.l), got.err)
			}
			if got, want := m.Next(), number(seed, 2+(n+7)/8+1); got != want {
				t.Errorf("behind Bytes(%d) of %X: %X, wanted %X", n, seed, got, want)
			}
		}
	}
}

func TestBytesOneBehindTheOther(t *testing.T) { // P5.1
	m := mix.New(5)
	numbers := 0
	for _, n := range []int{1, 0, 8, 9, 0, 3, 16, 1, 1} {
		want := stream(5, 8*numbers+n)[8*numbers:]
		if got := of(m.Bytes(n)); got != (said{want, api.OK}) {
			t.Errorf("Bytes(%d) behind %d numbers: %v, wanted %q", n, numbers, got, want)
		}
		numbers += (n + 7) / 8
	}
}

func TestBytesAtTheBound(t *testing.T) { // P5.1, P5.2
	for _, n := range []int{api.MaxCells - 1, api.MaxCells} {
		want := said{stream(9, n), api.OK}
		if got := of(mix.New(9).Bytes(n)); got != want {
			t.Errorf("Bytes(%d): %d bytes, error %d", n, len(got.l), got.err)
		}
		if got := of(mix.Row(9, n)); got != want {
			t.Errorf("Row(9, %d): %d bytes, error %d", n, len(got.l), got.err)
		}
	}
}

// refused are numbers of bytes that nobody answers.
var refused = []int{-1, -2, -8, math.MinInt, api.MaxCells + 1, api.MaxCells + 8, math.MaxInt}

func TestBytesRefused(t *testing.T) { // P5.1: nothing is done
	m := mix.New(9)
	for i, n := range refused {
		if got := of(m.Bytes(n)); got != (said{err: api.ErrRange}) {
			t.Errorf("Bytes(%d): %d bytes, error %d", n, len(got.l), got.err)
		}
		if got, want := m.Next(), number(9, i+1); got != want {
			t.Errorf("behind Bytes(%d): %X, wanted %X", n, got, want)
		}
	}
}

func TestNil(t *testing.T) { // P5.1
	var none *mix.Mix
	if got := none.Next(); got != 0 {
		t.Errorf("Next of nil: %X", got)
	}
	for _, n := range append([]int{0, 1, 8, api.MaxCells}, refused...) {
		if got := of(none.Bytes(n)); got != (said{err: api.ErrNil}) {
			t.Errorf("Bytes(%d) of nil: %d bytes, error %d", n, len(got.l), got.err)
		}
	}
	if got := none.Clone(); got != nil {
		t.Errorf("Clone of nil: %v", got)
	}
}

func TestClone(t *testing.T) { // P5.1: each goes on by itself
	m := mix.New(3)
	m.Next()
	m.Bytes(3) // a number that was begun is behind the clone, too
	c := m.Clone()
	for i := 3; i < 20; i++ {
		if got, want := m.Next(), number(3, i); got != want {
			t.Fatalf("what was cloned, the number %d: %X, wanted %X", i, got, want)
		}
	}
	for i := 3; i < 30; i++ {
		if got, want := c.Next(), number(3, i); got != want {
			t.Fatalf("the clone, the number %d: %X, wanted %X", i, got, want)
		}
	}
	if got, want := m.Next(), number(3, 20); got != want {
		t.Errorf("behind its clone: %X, wanted %X", got, want)
	}
	if got, want := mix.New(8).Clone().Next(), number(8, 1); got != want {
		t.Errorf("the clone of a new one: %X, wanted %X", got, want)
	}
}

func TestRow(t *testing.T) { // P5.2
	for _, c := range []struct {
		seed uint64
		n    int
		want string
	}{
		{0, 0, ""},
		{0, 1, "\xAF"},
		{0, 3, "\xAF\xCD\x1D"},
		{0, 9, "\xAF\xCD\x1D\x7B\x39\xA8\x20\xE2\xF4"},
		{1, 0, ""},
		{math.MaxUint64, 17, stream(math.MaxUint64, 17)},
	} {
		for range 2 { // no call hangs on those ahead
			if got := of(mix.Row(c.seed, c.n)); got != (said{c.want, api.OK}) {
				t.Errorf("Row(%X, %d): %v, wanted %q", c.seed, c.n, got, c.want)
			}
		}
	}
	for _, seed := range seeds() {
		if got := of(mix.Row(seed, 30)); got != (said{stream(seed, 30), api.OK}) {
			t.Errorf("Row(%X, 30): %v", seed, got)
		}
	}
	for _, n := range refused {
		if got := of(mix.Row(9, n)); got != (said{err: api.ErrRange}) {
			t.Errorf("Row(9, %d): %d bytes, error %d", n, len(got.l), got.err)
		}
	}
}

func TestPut(t *testing.T) { // P5.2
	for seed, want := range map[uint64]string{
		0:                  "\x00\x00\x00\x00\x00\x00\x00\x00",
		1:                  "\x00\x00\x00\x00\x00\x00\x00\x01",
		258:                "\x00\x00\x00\x00\x00\x00\x01\x02",
		0x0102030405060708: "\x01\x02\x03\x04\x05\x06\x07\x08",
		0x8000000000000000: "\x80\x00\x00\x00\x00\x00\x00\x00",
		math.MaxUint64:     "\xFF\xFF\xFF\xFF\xFF\xFF\xFF\xFF",
	} {
		if got := mix.Put(seed); string(got) != want {
			t.Errorf("Put(%X): %v", seed, got)
		}
		if got, err := mix.Seed([]byte(want)); got != seed || err != api.OK {
			t.Errorf("Seed(%q): %X, error %d", want, got, err)
		}
	}
	for _, seed := range seeds() {
		l := mix.Put(seed)
		if got, err := mix.Seed(l); len(l) != 8 || got != seed || err != api.OK {
			t.Errorf("%X there and back: %v, %X, error %d", seed, l, got, err)
		}
	}
}

func TestSeedOfOtherLengths(t *testing.T) { // P5.2
	whole := []byte{1, 2, 3, 4, 5, 6, 7, 8, 9, 10, 11, 12, 13, 14, 15, 16, 17}
	for n := range len(whole) + 1 {
		got, err := mix.Seed(whole[:n])
		if n == 8 && (got != 0x0102030405060708 || err != api.OK) {
			t.Errorf("Seed of eight bytes: %X, error %d", got, err)
		}
		if n != 8 && (got != 0 || err != api.ErrSize) {
			t.Errorf("Seed of %d bytes: %X, error %d", n, got, err)
		}
	}
	if got, err := mix.Seed(nil); got != 0 || err != api.ErrSize {
		t.Errorf("Seed of nil: %X, error %d", got, err)
	}
	if got, err := mix.Seed(make([]byte, api.MaxPacket)); got != 0 || err != api.ErrSize {
		t.Errorf("Seed of %d bytes: %X, error %d", api.MaxPacket, got, err)
	}
}

func TestOneState(t *testing.T) { // P5.3: the same for ever, however the state was come to
	far := mix.New(11)
	for range 1000 {
		far.Next()
	}
	step := uint64(0x9E3779B97F4A7C15)
	alike := []*mix.Mix{far, far.Clone(), mix.New(11 + 1000*step)}
	for range 1000 {
		want := alike[0].Next()
		for i, m := range alike[1:] {
			if got := m.Next(); got != want {
				t.Fatalf("one like it, %d: %X, wanted %X", i, got, want)
			}
		}
	}
	for i, m := range alike {
		if got := of(m.Bytes(20)); got != (said{stream(11, 16000+20)[16000:], api.OK}) {
			t.Errorf("behind 2000 numbers, %d: %v", i, got)
		}
	}
}

// unshifted: what was combined with itself, shifted right.
func unshifted(z uint64, shift int) uint64 {
	whole := z
	for range 64 / shift {
		whole = z ^ whole>>shift
	}
	return whole
}

// inverse: what z, which is odd, times is 1, modulo 2^64.
func inverse(z uint64) uint64 {
	factor := new(big.Int).SetUint64(z)
	return factor.ModInverse(factor, modulus).Uint64()
}

func TestUnlikeStates(t *testing.T) { // P5.3: a number tells its state, so that no other one has it
	second, first := inverse(0x94D049BB133111EB), inverse(0xBF58476D1CE4E5B9)
	seen := map[uint64]uint64{}
	for i := range 100000 {
		for _, seed := range []uint64{uint64(i), uint64(i) << 45, ^uint64(i)} {
			z := mix.New(seed).Next()
			if other, ok := seen[z]; ok && other != seed {
				t.Fatalf("%X and %X have one number, %X", seed, other, z)
			}
			seen[z] = seed
			state := unshifted(unshifted(unshifted(z, 31)*second, 27)*first, 30) - 0x9E3779B97F4A7C15
			if state != seed {
				t.Fatalf("the number of %X tells %X", seed, state)
			}
		}
	}
}

// turn: all bits of all bytes, spare room included.
func turn(l []byte) {
	l = l[:cap(l)]
	for i := range l {
		l[i] ^= 255
	}
}

func TestMemory(t *testing.T) {
	for name, call := range map[string]func() []byte{
		"Bytes": func() []byte { l, _ := mix.New(4).Bytes(20); return l },
		"Row":   func() []byte { l, _ := mix.Row(4, 20); return l },
		"Put":   func() []byte { return mix.Put(0x0102030405060708) },
	} {
		one, other := call(), call()
		want := string(other)
		turn(one)
		if string(other) != want || string(call()) != want {
			t.Errorf("%s shares its answer", name)
		}
	}
	m := mix.New(4)
	l, _ := m.Bytes(20)
	turn(l)
	if got := of(m.Bytes(20)); got != (said{stream(4, 44)[24:], api.OK}) {
		t.Errorf("a generator holds what it answered: %v", got)
	}
	whole := []byte{1, 2, 3, 4, 5, 6, 7, 8, 9, 10}
	mix.Seed(whole[1:9])
	mix.Seed(whole[:9])
	if string(whole) != "\x01\x02\x03\x04\x05\x06\x07\x08\x09\x0A" {
		t.Errorf("what was handed in was changed: %v", whole)
	}
}

package row_test

import (
	"math"
	"slices"
	"testing"

	"wellspring/api"
	"wellspring/head"
	"wellspring/row"
)

// fit are numbers of symbols that may be; of eight both modes are written with as many bytes.
var fit = []int{1, 2, 3, 7, 8, 9, 16, 255, 256, 257, api.MaxSymbols - 1, api.MaxSymbols}

// unfit are those that may not be.
var unfit = []int{0, -1, -8, -api.MaxSymbols, math.MinInt, api.MaxSymbols + 1, api.MaxCells, 1 << 32, 1<<32 + 8, math.MaxInt}

// modes are those that there aren't.
var modes = []byte{2, 3, 8, 127, 128, 254, 255}

// seeds are of all kinds: at the bounds, and with a bit alone in each of the eight bytes.
func seeds() []uint64 {
	l := []uint64{0, 1, 258, 0x0102030405060708, 0xF1E2D3C4B5A69788, math.MaxInt64, math.MaxUint64 - 1, math.MaxUint64}
	for i := range 64 {
		l = append(l, 1<<i)
	}
	return l
}

// bytesOf: so many of them, of all kinds.
func bytesOf(n int) []byte {
	l := make([]byte, n)
	for i := range l {
		l[i] = byte(i*i>>3 + i*29 + 5)
	}
	return l
}

// drawn: the first n bytes of a seed, by layer 5's words, without the program.
func drawn(seed uint64, n int) []byte {
	var l []byte
	for state := seed; len(l) < n; {
		state += 0x9E3779B97F4A7C15
		z := state
		z = (z ^ z>>30) * 0xBF58476D1CE4E5B9
		z = (z ^ z>>27) * 0x94D049BB133111EB
		z ^= z >> 31
		for range 8 {
			l = append(l, byte(z%256))
			z /= 256
		}
	}
	return l[:n]
}

// highestFirst: a number in eight bytes, without the program.
func highestFirst(n uint64) []byte {
	l := make([]byte, 8)
	for i := range l {
		l[7-i] = byte(n % 256)
		n /= 256
	}
	return l
}

// source: of Mode, Bytes and Seed, as they are.
func source(mode byte, l []byte, seed uint64) row.Source {
	return row.Source{Mode: mode, Bytes: l, Seed: seed}
}

// alike: are all three alike? (Same looks at what the mode has alone.)
func alike(a, b row.Source) bool {
	return a.Mode == b.Mode && slices.Equal(a.Bytes, b.Bytes) && a.Seed == b.Seed
}

// tells: Vector and Write of s, of k symbols, say these.
func tells(t *testing.T, s row.Source, k int, vector, written []byte) {
	t.Helper()
	if got, err := s.Vector(k); err != api.OK || !slices.Equal(got, vector) {
		t.Errorf("Vector(%d), mode %d, %d bytes, seed %X: %d bytes, error %d", k, s.Mode, len(s.Bytes), s.Seed, len(got), err)
	}
	if got, err := s.Write(k); err != api.OK || !slices.Equal(got, written) {
		t.Errorf("Write(%d), mode %d, %d bytes, seed %X: %d bytes, error %d", k, s.Mode, len(s.Bytes), s.Seed, len(got), err)
	}
}

// refuses: Vector and Write of s, of k symbols, say this error, and nothing else.
func refuses(t *testing.T, s row.Source, k int, wanted api.Errno) {
	t.Helper()
	if got, err := s.Vector(k); len(got) != 0 || err != wanted {
		t.Errorf("Vector(%d), mode %d, %d bytes: %d bytes, error %d, wanted %d", k, s.Mode, len(s.Bytes), len(got), err, wanted)
	}
	if got, err := s.Write(k); len(got) != 0 || err != wanted {
		t.Errorf("Write(%d), mode %d, %d bytes: %d bytes, error %d, wanted %d", k, s.Mode, len(s.Bytes), len(got), err, wanted)
	}
}

// reads: Read says this source, and this error.
func reads(t *testing.T, mode byte, k int, l []byte, wanted row.Source, wantedErr api.Errno) {
	t.Helper()
	if got, err := row.Read(mode, k, l); err != wantedErr || !alike(got, wanted) {
		t.Errorf("Read(%d, %d, of %d bytes): mode %d, %d bytes, seed %X, error %d, wanted error %d", mode, k, len(l), got.Mode, len(got.Bytes), got.Seed, err, wantedErr)
	}
}

func TestMakers(t *testing.T) { // P14.1: what the mode doesn't have is zero
	for _, n := range append([]int{0}, fit...) {
		if got := row.Explicit(bytesOf(n)...); !alike(got, source(0, bytesOf(n), 0)) {
			t.Errorf("Explicit of %d bytes: mode %d, %d bytes, seed %X", n, got.Mode, len(got.Bytes), got.Seed)
		}
	}
	if got := row.Explicit(); !alike(got, source(0, nil, 0)) {
		t.Errorf("Explicit of nothing: %v", got)
	}
	if got := row.Explicit(0, 255, 0); !alike(got, source(0, []byte{0, 255, 0}, 0)) {
		t.Errorf("Explicit of 0 255 0: %v", got)
	}
	for _, seed := range seeds() {
		if got := row.Seeded(seed); !alike(got, source(1, nil, seed)) {
			t.Errorf("Seeded of %X: %v", seed, got)
		}
	}
}

func TestWidth(t *testing.T) { // P14.1
	for k := 1; k <= api.MaxSymbols; k++ {
		if got, err := row.Width(head.Explicit, k); got != k || err != api.OK {
			t.Errorf("Width of Explicit, %d symbols: %d, error %d", k, got, err)
		}
		if got, err := row.Width(head.Seeded, k); got != 8 || err != api.OK {
			t.Errorf("Width of Seeded, %d symbols: %d, error %d", k, got, err)
		}
	}
	for _, k := range unfit {
		for mode := range byte(2) {
			if got, err := row.Width(mode, k); got != 0 || err != api.ErrRange {
				t.Errorf("Width of the mode %d, %d symbols: %d, error %d", mode, k, got, err)
			}
		}
	}
	for mode := 2; mode < 256; mode++ {
		for _, k := range slices.Concat(fit, unfit) { // the mode is looked at first
			if got, err := row.Width(byte(mode), k); got != 0 || err != api.ErrMode {
				t.Errorf("Width of the mode %d, %d symbols: %d, error %d", mode, k, got, err)
			}
		}
	}
}

func TestExample(t *testing.T) { // P14.2
	tells(t, row.Seeded(0), 1, []byte{0xAF}, make([]byte, 8))
}

func TestExplicitTells(t *testing.T) { // P14.2: its Bytes, whatever its Seed is
	for _, k := range fit {
		tells(t, row.Explicit(bytesOf(k)...), k, bytesOf(k), bytesOf(k))
		tells(t, row.Explicit(make([]byte, k)...), k, make([]byte, k), make([]byte, k)) // noughts are a vector, too
		tells(t, source(0, bytesOf(k), math.MaxUint64), k, bytesOf(k), bytesOf(k))
	}
}

func TestSeededTells(t *testing.T) { // P14.2: what its seed says, whatever its Bytes are
	for _, seed := range seeds() {
		for _, k := range []int{1, 2, 7, 8, 9, 17} {
			tells(t, row.Seeded(seed), k, drawn(seed, k), highestFirst(seed))
			for _, n := range []int{0, k - 1, k, k + 1, 8} {
				tells(t, source(1, bytesOf(n), seed), k, drawn(seed, k), highestFirst(seed))
			}
		}
	}
	for _, k := range fit {
		tells(t, row.Seeded(9), k, drawn(9, k), []byte{0, 0, 0, 0, 0, 0, 0, 9})
	}
	tells(t, row.Seeded(258), 3, drawn(258, 3), []byte{0, 0, 0, 0, 0, 0, 1, 2})
	tells(t, row.Seeded(math.MaxUint64), 3, drawn(math.MaxUint64, 3), slices.Repeat([]byte{255}, 8))
}

func TestExplicitOfAnotherSize(t *testing.T) { // P14.2
	for _, k := range fit {
		for _, n := range []int{0, k - 1, k + 1, 2 * k, 8, api.MaxSymbols + 1} {
			if n != k {
				refuses(t, row.Explicit(bytesOf(n)...), k, api.ErrSize)
			}
		}
		refuses(t, row.Source{}, k, api.ErrSize) // without Bytes
		refuses(t, source(0, nil, 77), k, api.ErrSize)
		refuses(t, source(0, bytesOf(k + 1)[:k-1], 77), k, api.ErrSize) // what is behind it isn't its own
	}
}

func TestOfUnfitNumbers(t *testing.T) { // P14.2: ahead of a wrong number of Bytes
	for _, k := range unfit {
		for _, n := range []int{0, 1, 8, api.MaxSymbols, api.MaxSymbols + 1} {
			refuses(t, row.Explicit(bytesOf(n)...), k, api.ErrRange)
			refuses(t, source(1, bytesOf(n), 5), k, api.ErrRange)
		}
		refuses(t, row.Seeded(0), k, api.ErrRange)
	}
}

func TestOfOtherModes(t *testing.T) { // P14.2: ahead of all else
	for _, mode := range modes {
		for _, k := range slices.Concat(fit, unfit) {
			refuses(t, source(mode, bytesOf(max(0, min(k, api.MaxCells))), 5), k, api.ErrMode)
			refuses(t, source(mode, nil, 0), k, api.ErrMode)
			refuses(t, source(mode, bytesOf(8), 0), k, api.ErrMode)
			for _, n := range []int{0, 1, 7, 8, 9} {
				reads(t, mode, k, bytesOf(n), row.Source{}, api.ErrMode)
			}
		}
	}
}

func TestRead(t *testing.T) { // P14.2
	for _, k := range fit {
		reads(t, head.Explicit, k, bytesOf(k), source(0, bytesOf(k), 0), api.OK)
		reads(t, head.Explicit, k, make([]byte, k), source(0, make([]byte, k), 0), api.OK)
		for _, seed := range seeds() {
			reads(t, head.Seeded, k, highestFirst(seed), source(1, nil, seed), api.OK)
		}
	}
	reads(t, head.Explicit, 8, highestFirst(0x0102030405060708), source(0, []byte{1, 2, 3, 4, 5, 6, 7, 8}, 0), api.OK)
	reads(t, head.Seeded, 8, []byte{1, 2, 3, 4, 5, 6, 7, 8}, source(1, nil, 0x0102030405060708), api.OK)
}

func TestReadOfAnotherSize(t *testing.T) { // P14.2
	for _, k := range fit {
		for _, n := range []int{0, 1, 7, 8, 9, 16, k - 1, k, k + 1, 2 * k} {
			if n != k {
				reads(t, head.Explicit, k, bytesOf(n), row.Source{}, api.ErrSize)
			}
			if n != 8 {
				reads(t, head.Seeded, k, bytesOf(n), row.Source{}, api.ErrSize)
			}
		}
		for mode := range byte(2) {
			reads(t, mode, k, nil, row.Source{}, api.ErrSize)
			reads(t, mode, k, bytesOf(api.MaxPacket), row.Source{}, api.ErrSize)
		}
	}
}

func TestReadOfUnfitNumbers(t *testing.T) { // P14.2: ahead of another number of bytes
	for _, k := range unfit {
		for mode := range byte(2) {
			reads(t, mode, k, nil, row.Source{}, api.ErrRange)
			for _, n := range []int{0, 1, 8, 9, api.MaxSymbols + 1} {
				reads(t, mode, k, bytesOf(n), row.Source{}, api.ErrRange)
			}
		}
	}
}

// same: Same says so, whichever stands first.
func same(t *testing.T, a, b row.Source, wanted bool) {
	t.Helper()
	if got, back := row.Same(a, b), row.Same(b, a); got != wanted || back != wanted {
		t.Errorf("Same(%v, %v): %t, and turned about %t", a, b, got, back)
	}
}

func TestSameOfOneMode(t *testing.T) { // P14.1: what the mode doesn't have isn't looked at
	lists := [][]byte{nil, {0}, {1}, {1, 2}, {2, 1}, {1, 2, 0}, {0, 1, 2}, bytesOf(300)}
	for i, a := range lists {
		for j, b := range lists {
			for _, mode := range append([]byte{head.Explicit}, modes...) {
				same(t, source(mode, a, 5), source(mode, slices.Clone(b), 5), i == j)
				same(t, source(mode, a, 5), source(mode, slices.Clone(b), 6), i == j)
			}
			same(t, source(head.Seeded, a, 5), source(head.Seeded, b, 5), true)
			same(t, source(head.Seeded, a, 5), source(head.Seeded, b, 6), false)
		}
	}
	for i, a := range seeds() {
		for j, b := range seeds() {
			same(t, row.Seeded(a), row.Seeded(b), a == b)
			same(t, source(head.Seeded, lists[i%8], a), source(head.Seeded, lists[j%8], b), a == b)
		}
	}
	same(t, source(0, nil, 0), source(0, []byte{}, 0), true)
	same(t, source(2, nil, 0), source(2, []byte{}, 1), true)
}

func TestSameOfUnlikeModes(t *testing.T) { // P14.1: even where all else is alike
	all := append([]byte{0, 1}, modes...)
	for _, one := range all {
		for _, other := range all {
			for _, l := range [][]byte{nil, {1, 2}, bytesOf(8)} {
				same(t, source(one, l, 5), source(other, l, 5), one == other)
				same(t, source(one, l, 0), source(other, l, 0), one == other)
			}
		}
	}
	seed := uint64(0x0102030405060708)
	same(t, row.Explicit(highestFirst(seed)...), row.Seeded(seed), false)    // written with the same bytes
	same(t, row.Explicit(drawn(seed, 3)...), row.Seeded(seed), false)        // of the same vector
	same(t, row.Source{}, row.Explicit(), true)                              // the zero one is Explicit
	same(t, row.Source{}, row.Source{Mode: head.Explicit, Seed: seed}, true) // and has no Seed
}

// back: what is written of s, of k symbols, is read, and has the same vector.
func back(t *testing.T, s row.Source, k int) {
	t.Helper()
	l, err := s.Write(k)
	width, _ := row.Width(s.Mode, k)
	if err != api.OK || len(l) != width {
		t.Fatalf("Write(%d), mode %d: %d bytes, error %d, wanted %d bytes", k, s.Mode, len(l), err, width)
	}
	got, err := row.Read(s.Mode, k, l)
	if err != api.OK || !row.Same(got, s) {
		t.Errorf("mode %d, %d symbols: other than it was, error %d", s.Mode, k, err)
	}
	one, _ := s.Vector(k)
	other, err := got.Vector(k)
	if err != api.OK || len(one) != k || !slices.Equal(one, other) {
		t.Errorf("mode %d, %d symbols: another vector, error %d", s.Mode, k, err)
	}
	if again, err := got.Write(k); err != api.OK || !slices.Equal(again, l) {
		t.Errorf("mode %d, %d symbols: written otherwise, error %d", s.Mode, k, err)
	}
}

func TestThereAndBack(t *testing.T) { // P14.3
	for _, k := range fit {
		back(t, row.Explicit(bytesOf(k)...), k)
		back(t, row.Explicit(make([]byte, k)...), k)
		back(t, source(0, bytesOf(k), 7), k)
		for _, seed := range seeds()[:12] {
			back(t, row.Seeded(seed), k)
			back(t, source(1, bytesOf(k), seed), k)
		}
	}
	for _, seed := range seeds() {
		back(t, row.Seeded(seed), 3)
		back(t, row.Explicit(highestFirst(seed)...), 8)
	}
}

// turn: all bits of all bytes, spare room included.
func turn(l []byte) {
	l = l[:cap(l)]
	for i := range l {
		l[i] ^= 255
	}
}

// calls: each of the calls that answer bytes, of bytes that are handed in.
var calls = map[string]func(l []byte) []byte{
	"Explicit": func(l []byte) []byte { return row.Explicit(l...).Bytes },
	"Read":     func(l []byte) []byte { s, _ := row.Read(head.Explicit, len(l), l); return s.Bytes },
	"Vector":   func(l []byte) []byte { v, _ := source(0, l, 0).Vector(len(l)); return v },
	"Write":    func(l []byte) []byte { w, _ := source(0, l, 0).Write(len(l)); return w },
}

func TestMemory(t *testing.T) { // what is handed in stays, spare room included, and an answer shares nothing with it
	for name, call := range calls {
		for _, n := range []int{1, 3, 8} {
			whole := bytesOf(20)
			one, other := call(whole[4:4+n]), call(whole[4:4+n])
			wanted := bytesOf(20)[4 : 4+n]
			if !slices.Equal(one, wanted) {
				t.Fatalf("%s of %d bytes: %v", name, n, one)
			}
			turn(one)
			if !slices.Equal(whole, bytesOf(20)) || !slices.Equal(other, wanted) {
				t.Errorf("%s of %d bytes shares its answer", name, n)
			}
			turn(whole)
			if !slices.Equal(other, wanted) {
				t.Errorf("%s of %d bytes keeps what was handed in", name, n)
			}
		}
	}
}

func TestMemoryOfSeeded(t *testing.T) {
	s := source(head.Seeded, bytesOf(8)[:3], 258)
	for range 3 {
		tells(t, s, 9, drawn(258, 9), highestFirst(258))
		v, _ := s.Vector(9)
		w, _ := s.Write(9)
		turn(v)
		turn(w)
		if !slices.Equal(s.Bytes[:8], bytesOf(8)) {
			t.Fatalf("the source's Bytes were changed: %v", s.Bytes[:8])
		}
	}
	l := highestFirst(258)
	got, _ := row.Read(head.Seeded, 9, l)
	if !slices.Equal(l, highestFirst(258)) {
		t.Errorf("Read changed what was handed in: %v", l)
	}
	turn(l)
	if !alike(got, row.Seeded(258)) {
		t.Errorf("Read keeps what was handed in: %v", got)
	}
}

func TestQuestionsLeave(t *testing.T) { // what is refused, or asked alone, changes nothing, and is told nowhere
	whole := bytesOf(20)
	s := source(head.Explicit, whole[4:7], 5)
	refuses(t, s, 2, api.ErrSize)
	refuses(t, s, 4, api.ErrSize)
	refuses(t, s, 0, api.ErrRange)
	same(t, s, source(head.Explicit, whole[4:8], 5), false)
	reads(t, head.Explicit, 4, whole[4:7], row.Source{}, api.ErrSize)
	reads(t, head.Seeded, 4, whole[4:7], row.Source{}, api.ErrSize)
	reads(t, 2, 3, whole[4:7], row.Source{}, api.ErrMode)
	if !slices.Equal(whole, bytesOf(20)) || !alike(s, source(head.Explicit, bytesOf(20)[4:7], 5)) {
		t.Errorf("what was handed in was changed: %v", whole)
	}
	tells(t, s, 3, bytesOf(20)[4:7], bytesOf(20)[4:7])
}

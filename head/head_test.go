package head_test

import (
	"math"
	"slices"
	"testing"

	"wellspring/api"
	"wellspring/head"
)

// numbers are those at the bounds, and with a bit alone, or all but one, in each of the four bytes.
func numbers() []uint32 {
	l := []uint32{0, 1, 7, 255, 256, 258, 0x01020304, 0xF1E2D3C4, math.MaxInt32, 1 << 31, math.MaxUint32 - 1, math.MaxUint32}
	for i := range 32 {
		l = append(l, 1<<i, ^(uint32(1) << i))
	}
	return l
}

// written: a head by the chapter's words, without the program.
func written(mode byte, object, number uint32) []byte {
	l := []byte{1, mode}
	for _, n := range []uint32{object, number} {
		for range 4 {
			l = append(l, byte(n%256))
			n /= 256
		}
	}
	return l
}

// said is what Read says; a list without elements is told as "".
type said struct {
	h    head.Head
	rest string
	err  api.Errno
}

func read(l []byte) said {
	h, rest, err := head.Read(l)
	return said{h, string(rest), err}
}

// want: Read of l says this.
func want(t *testing.T, l []byte, wanted said) {
	t.Helper()
	if got := read(l); got != wanted {
		t.Errorf("Read(%v): %v, wanted %v", l[:min(len(l), 20)], got, wanted)
	}
}

func TestModes(t *testing.T) { // the chapter's numbers, of any type that a number may have
	var one byte = head.Explicit
	var other int = head.Seeded
	if one != 0 || other != 1 {
		t.Errorf("Explicit %d, Seeded %d", one, other)
	}
}

func TestExample(t *testing.T) { // P13.1
	h := head.Head{Mode: head.Seeded, Object: 7, Number: 258}
	whole := []byte{1, 1, 7, 0, 0, 0, 2, 1, 0, 0}
	if got, err := h.Bytes(); err != api.OK || !slices.Equal(got, whole) {
		t.Errorf("Bytes: %v, error %d", got, err)
	}
	want(t, whole, said{h: h})
	if want := written(1, 7, 258); !slices.Equal(want, whole) {
		t.Errorf("the test's own way: %v", want)
	}
}

func TestCheck(t *testing.T) { // P13.1: of all modes, whatever the numbers are
	for mode := range 256 {
		for _, n := range []uint32{0, 1, 1 << 31, math.MaxUint32} {
			wanted := api.ErrMode
			if mode == 0 || mode == 1 {
				wanted = api.OK
			}
			if got := (head.Head{Mode: byte(mode), Object: n, Number: ^n}).Check(); got != wanted {
				t.Errorf("Check of the mode %d: %d, wanted %d", mode, got, wanted)
			}
		}
	}
	if got := (head.Head{}).Check(); got != api.OK { // the zero one is Explicit
		t.Errorf("Check of the zero head: %d", got)
	}
}

func TestBytes(t *testing.T) { // P13.1
	for _, object := range numbers() {
		for _, number := range numbers() {
			for mode := range byte(2) {
				h := head.Head{Mode: mode, Object: object, Number: number}
				if got, err := h.Bytes(); err != api.OK || !slices.Equal(got, written(mode, object, number)) {
					t.Errorf("Bytes of %v: %v, error %d", h, got, err)
				}
			}
		}
	}
}

func TestBytesOfAnotherMode(t *testing.T) { // P13.1
	for mode := 2; mode < 256; mode++ {
		for _, n := range []uint32{0, 1, math.MaxUint32} {
			h := head.Head{Mode: byte(mode), Object: n, Number: n}
			if got, err := h.Bytes(); len(got) != 0 || err != api.ErrMode {
				t.Errorf("Bytes of %v: %v, error %d", h, got, err)
			}
		}
	}
}

func TestRead(t *testing.T) { // P13.1
	for _, object := range numbers() {
		for _, number := range numbers() {
			for mode := range byte(2) {
				want(t, written(mode, object, number), said{h: head.Head{Mode: mode, Object: object, Number: number}})
			}
		}
	}
}

func TestReadOfTooFew(t *testing.T) { // P13.1: ahead of another version, and of another mode
	whole := written(1, 7, 258)
	want(t, nil, said{err: api.ErrShort})
	for n := range 10 {
		want(t, whole[:n], said{err: api.ErrShort}) // what is behind it isn't its own
		want(t, slices.Clone(whole[:n]), said{err: api.ErrShort})
		for _, b := range []byte{0, 1, 2, 255} {
			want(t, slices.Repeat([]byte{b}, n), said{err: api.ErrShort})
		}
	}
}

func TestReadOfAnotherVersion(t *testing.T) { // P13.1: ahead of another mode
	for version := range 256 {
		for _, mode := range []byte{0, 1, 2, 3, 128, 255} {
			for _, length := range []int{10, 11, 20} {
				l := append(written(mode, 7, 258), make([]byte, length-10)...)
				l[0] = byte(version)
				switch {
				case version != 1:
					want(t, l, said{err: api.ErrVersion})
				case mode > 1:
					want(t, l, said{err: api.ErrMode})
				default:
					want(t, l, said{head.Head{Mode: mode, Object: 7, Number: 258}, string(l[10:]), api.OK})
				}
			}
		}
	}
}

func TestReadOfAnotherMode(t *testing.T) { // P13.1
	for mode := 2; mode < 256; mode++ {
		for _, length := range []int{10, 11, 40} {
			want(t, append(written(byte(mode), 7, 258), make([]byte, length-10)...), said{err: api.ErrMode})
		}
	}
}

func TestWhatIsBehind(t *testing.T) { // P13.2: it is handed back as it was, and changes nothing of the head
	h := head.Head{Mode: head.Seeded, Object: math.MaxUint32, Number: 0x80000001}
	whole, _ := h.Bytes()
	for _, rest := range []string{"", "\x00", "\x01", "\x09", "\xFF\xFF", "\x00\x00\x00", string(whole), string(whole) + string(whole), "123456789"} {
		want(t, append(slices.Clone(whole), rest...), said{h, rest, api.OK})
	}
	far := make([]byte, api.MaxPacket+1)
	for i := range far {
		far[i] = byte(i*i>>5 + i*11)
	}
	want(t, append(slices.Clone(whole), far...), said{h, string(far), api.OK})
}

func TestThereAndBack(t *testing.T) { // P13.2
	for _, object := range numbers() {
		for _, number := range numbers() {
			for mode := range byte(2) {
				h := head.Head{Mode: mode, Object: object, Number: number}
				l, err := h.Bytes()
				if err != api.OK {
					t.Fatalf("Bytes of %v: error %d", h, err)
				}
				want(t, l, said{h: h})
				want(t, append(l, byte(object), byte(number), 77), said{h, string([]byte{byte(object), byte(number), 77}), api.OK})
			}
		}
	}
}

func TestBackAndThere(t *testing.T) { // P13.2: each ten bytes that are read are just the head's
	for i := range 10 {
		for b := range 256 {
			l := []byte{1, 0, 9, 8, 7, 6, 5, 4, 3, 2, 1, 0}
			l[i] = byte(b)
			h, rest, err := head.Read(l)
			if ok := (i > 0 || b == 1) && (i != 1 || b < 2); (err == api.OK) != ok {
				t.Errorf("Read of %v: error %d", l, err)
			}
			if err != api.OK {
				continue
			}
			if got, err := h.Bytes(); err != api.OK || !slices.Equal(slices.Concat(got, rest), l) {
				t.Errorf("%v were read, and written as %v and %v, error %d", l, got, rest, err)
			}
		}
	}
}

// turn: all bits of all bytes, spare room included.
func turn(l []byte) {
	l = l[:cap(l)]
	for i := range l {
		l[i] ^= 255
	}
}

func TestHandedInStays(t *testing.T) { // spare room included
	for _, n := range []int{0, 1, 9, 10, 11, 14, 20} {
		for _, first := range []byte{1, 2} {
			for _, mode := range []byte{0, 1, 2} {
				whole := append(written(mode, 7, 258), 11, 12, 13, 14, 15, 16, 17, 18, 19, 20, 21)
				whole[0] = first
				before := slices.Clone(whole)
				_, rest, err := head.Read(whole[:n])
				again := slices.Clone(rest)
				turn(rest)
				if !slices.Equal(whole, before) {
					t.Fatalf("Read of %v, error %d: it is changed, or shared: %v", before[:n], err, whole)
				}
				_, rest, _ = head.Read(whole[:n])
				turn(whole)
				if !slices.Equal(rest, again) {
					t.Fatalf("Read of %v, error %d: it is kept: %v", before[:n], err, rest)
				}
			}
		}
	}
}

func TestAnswersShareNothing(t *testing.T) {
	h := head.Head{Mode: head.Explicit, Object: 0x01020304, Number: 0x05060708}
	one, _ := h.Bytes()
	other, _ := h.Bytes()
	turn(one)
	third, _ := h.Bytes()
	if wanted := written(0, h.Object, h.Number); !slices.Equal(other, wanted) || !slices.Equal(third, wanted) {
		t.Errorf("Bytes shares its answer: %v, %v", other, third)
	}
	l := append(other, 5, 6, 7)
	_, rest, _ := head.Read(l)
	_, again, _ := head.Read(l)
	turn(rest)
	if !slices.Equal(again, []byte{5, 6, 7}) {
		t.Errorf("Read shares its answer: %v", again)
	}
}

func TestSameAgain(t *testing.T) { // a call hangs on its arguments alone, those ahead of it and refused ones told nowhere
	l := append(written(1, 7, 258), 9)
	wanted := said{head.Head{Mode: 1, Object: 7, Number: 258}, "\x09", api.OK}
	for _, refused := range [][]byte{nil, l[:9], append([]byte{2}, l[1:]...), append([]byte{1, 2}, l[2:]...)} {
		want(t, l, wanted)
		if got := read(refused); got.err == api.OK || got != (said{err: got.err}) {
			t.Errorf("Read(%v): %v", refused, got)
		}
		if got, err := (head.Head{Mode: 9}).Bytes(); len(got) != 0 || err != api.ErrMode {
			t.Errorf("Bytes of the mode 9: %v, error %d", got, err)
		}
		want(t, l, wanted)
		want(t, written(0, 0, 0), said{})
	}
}

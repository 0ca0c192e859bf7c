package cut_test

import (
	"math"
	"slices"
	"strconv"
	"strings"
	"testing"

	"wellspring/api"
	"wellspring/cut"
	"wellspring/plan"
)

// bytesOf: an object of that length, without noughts, so that it is told from what is filled up.
func bytesOf(length int) []byte {
	object := make([]byte, length)
	for i := range object {
		object[i] = byte(i%251*7%255 + 1)
	}
	return object
}

// text: symbols, byte by byte in base ten, one symbol behind the other.
func text(symbols ...[]byte) string {
	var l []string
	for _, symbol := range symbols {
		var digits []string
		for _, b := range symbol {
			digits = append(digits, strconv.Itoa(int(b)))
		}
		l = append(l, strings.Join(digits, " "))
	}
	return strings.Join(l, ", ")
}

// walked: the symbols, byte by byte, each of them ended where it is full: another way than the program's.
func walked(size int, object []byte) [][]byte {
	symbols := [][]byte{nil}
	for _, b := range object {
		if len(symbols[len(symbols)-1]) == size {
			symbols = append(symbols, nil)
		}
		symbols[len(symbols)-1] = append(symbols[len(symbols)-1], b)
	}
	for len(symbols[len(symbols)-1]) < size {
		symbols[len(symbols)-1] = append(symbols[len(symbols)-1], 0)
	}
	return symbols
}

// planOf: one that may be.
func planOf(t *testing.T, length, size int) plan.Plan {
	t.Helper()
	p, err := plan.Of(length, size, 7)
	if err != api.OK {
		t.Fatalf("plan of %d by %d: error %d", length, size, err)
	}
	return p
}

// objects: f is asked of objects of many lengths and sizes: of no bytes, of as many as fill their symbols, and of one more and one less.
func objects(t *testing.T, f func(p plan.Plan, object []byte)) {
	t.Helper()
	for size := 1; size <= 9; size++ {
		for length := range 31 {
			f(planOf(t, length, size), bytesOf(length))
		}
	}
	for _, c := range []struct{ length, size int }{
		{api.MaxSymbols - 1, 1}, {api.MaxSymbols, 1}, {3*api.MaxSymbols - 1, 3}, {3 * api.MaxSymbols, 3}, {3*api.MaxSymbols - 2, 3},
		{0, api.MaxSymbol}, {1, api.MaxSymbol}, {api.MaxSymbol - 1, api.MaxSymbol}, {api.MaxSymbol, api.MaxSymbol}, {api.MaxSymbol + 1, api.MaxSymbol},
		{3 * api.MaxSymbol, api.MaxSymbol}, {1000, 255}, {1024, 256},
	} {
		f(planOf(t, c.length, c.size), bytesOf(c.length))
	}
}

// wrong is a plan that may not be, and why.
type wrong struct {
	p   plan.Plan
	err api.Errno
}

// faults are such plans; of several faults the first one is told.
func faults() []wrong {
	most := math.MaxInt
	return []wrong{
		{plan.Plan{}, api.ErrSize},
		{plan.Plan{Length: -1, Size: 2, Symbols: 1}, api.ErrRange},
		{plan.Plan{Length: -1, Size: 0, Symbols: -1}, api.ErrRange},
		{plan.Plan{Length: math.MinInt, Size: math.MinInt, Symbols: math.MinInt}, api.ErrRange},
		{plan.Plan{Length: 5, Size: 0, Symbols: 3}, api.ErrSize},
		{plan.Plan{Length: 5, Size: -2, Symbols: 3}, api.ErrSize},
		{plan.Plan{Length: 5, Size: api.MaxSymbol + 1, Symbols: 1}, api.ErrSize},
		{plan.Plan{Length: most, Size: 0, Symbols: 3}, api.ErrSize},
		{plan.Plan{Length: api.MaxSymbols + 1, Size: 1, Symbols: api.MaxSymbols + 1}, api.ErrMany},
		{plan.Plan{Length: most, Size: 1, Symbols: most}, api.ErrMany},
		{plan.Plan{Length: 5, Size: 2, Symbols: 2}, api.ErrForm},
		{plan.Plan{Length: 5, Size: 2, Symbols: 4}, api.ErrForm},
		{plan.Plan{Length: 5, Size: 2, Symbols: 0}, api.ErrForm},
		{plan.Plan{Length: 5, Size: 2, Symbols: -3}, api.ErrForm},
		{plan.Plan{Length: 5, Size: 2, Symbols: most}, api.ErrForm},
		{plan.Plan{Length: 0, Size: 2, Symbols: 0}, api.ErrForm},
	}
}

func TestExample(t *testing.T) { // P11.1
	symbols, err := cut.Cut(planOf(t, 5, 2), []byte{1, 2, 3, 4, 5})
	if err != api.OK || text(symbols...) != "1 2, 3 4, 5 0" {
		t.Errorf("Cut: %v, error %d", symbols, err)
	}
}

func TestCut(t *testing.T) { // P11.1
	objects(t, func(p plan.Plan, object []byte) {
		symbols, err := cut.Cut(p, object)
		if err != api.OK || !slices.EqualFunc(symbols, walked(p.Size, object), slices.Equal) {
			t.Errorf("Cut by %v: %d symbols, error %d", p, len(symbols), err)
		}
	})
}

func TestCutOfNothing(t *testing.T) { // P11.1: one symbol of noughts
	for _, size := range []int{1, 2, 3, 300, api.MaxSymbol} {
		for _, object := range [][]byte{nil, {}, bytesOf(3)[:0]} {
			symbols, err := cut.Cut(planOf(t, 0, size), object)
			if err != api.OK || len(symbols) != 1 || !slices.Equal(symbols[0], make([]byte, size)) {
				t.Errorf("Cut of no bytes by %d: %d symbols, error %d", size, len(symbols), err)
			}
		}
	}
}

func TestSymbol(t *testing.T) { // P11.1
	objects(t, func(p plan.Plan, object []byte) {
		for i, wanted := range walked(p.Size, object) {
			if got, err := cut.Symbol(p, object, i); err != api.OK || !slices.Equal(got, wanted) {
				t.Errorf("Symbol %d by %v: %d bytes, error %d", i, p, len(got), err)
			}
		}
		for _, i := range []int{-1, -2, p.Symbols, p.Symbols + 1, api.MaxSymbols, api.MaxSymbols + 1, math.MinInt, math.MaxInt} {
			if i >= 0 && i < p.Symbols {
				continue
			}
			if got, err := cut.Symbol(p, object, i); len(got) != 0 || err != api.ErrRange {
				t.Errorf("Symbol %d by %v: %d bytes, error %d", i, p, len(got), err)
			}
		}
	})
}

func TestWrongLength(t *testing.T) { // P11.1
	for _, size := range []int{1, 2, 3, 5, 6, api.MaxSymbol} {
		for length := range 9 {
			p := planOf(t, length, size)
			for _, other := range []int{0, length - 1, length + 1, length + size, p.Room(), 100, api.MaxSymbol + 1} {
				if other < 0 || other == length {
					continue
				}
				object := bytesOf(other)
				if symbols, err := cut.Cut(p, object); len(symbols) != 0 || err != api.ErrSize {
					t.Errorf("Cut of %d bytes by %v: %d symbols, error %d", other, p, len(symbols), err)
				}
				for _, i := range []int{0, -1, p.Symbols, math.MaxInt} { // ahead of a number that there isn't
					if symbol, err := cut.Symbol(p, object, i); len(symbol) != 0 || err != api.ErrSize {
						t.Errorf("Symbol %d of %d bytes by %v: %v, error %d", i, other, p, symbol, err)
					}
				}
			}
		}
	}
}

func TestWrongPlan(t *testing.T) { // P11.1: ahead of all else
	for _, w := range faults() {
		for _, object := range [][]byte{nil, bytesOf(1), bytesOf(4), bytesOf(5), bytesOf(6)} {
			if symbols, err := cut.Cut(w.p, object); len(symbols) != 0 || err != w.err {
				t.Errorf("Cut by %v: %v, error %d, wanted %d", w.p, symbols, err, w.err)
			}
			for _, i := range []int{0, -1, 1, 5, math.MinInt, math.MaxInt} {
				if symbol, err := cut.Symbol(w.p, object, i); len(symbol) != 0 || err != w.err {
					t.Errorf("Symbol %d by %v: %v, error %d, wanted %d", i, w.p, symbol, err, w.err)
				}
			}
		}
		for _, at := range []int{0, -1, 1, 4, 5, math.MinInt, math.MaxInt} {
			if i, j, err := cut.Spread(w.p, at); i != 0 || j != 0 || err != w.err {
				t.Errorf("Spread of %d by %v: %d, %d, error %d, wanted %d", at, w.p, i, j, err, w.err)
			}
		}
	}
}

func TestSpread(t *testing.T) { // P11.1
	objects(t, func(p plan.Plan, object []byte) {
		symbol, place := 0, 0
		for at := range object {
			if i, j, err := cut.Spread(p, at); i != symbol || j != place || err != api.OK {
				t.Errorf("Spread of %d by %v: %d, %d, error %d, wanted %d, %d", at, p, i, j, err, symbol, place)
			}
			if place++; place == p.Size {
				symbol, place = symbol+1, 0
			}
		}
	})
	const room = api.MaxSymbols * api.MaxSymbol
	if i, j, err := cut.Spread(planOf(t, room, api.MaxSymbol), room-1); i != api.MaxSymbols-1 || j != api.MaxSymbol-1 || err != api.OK {
		t.Errorf("Spread of the last byte that can be: %d, %d, error %d", i, j, err)
	}
}

func TestSpreadOfNoByte(t *testing.T) { // P11.1: what fills up is no byte of the object
	objects(t, func(p plan.Plan, object []byte) {
		for _, at := range []int{-1, -2, -p.Size, p.Length, p.Length + 1, p.Room(), p.Room() + 1, math.MinInt, math.MaxInt} {
			if i, j, err := cut.Spread(p, at); i != 0 || j != 0 || err != api.ErrRange {
				t.Errorf("Spread of %d by %v: %d, %d, error %d", at, p, i, j, err)
			}
		}
	})
}

func TestWhatFollows(t *testing.T) { // P11.2
	objects(t, func(p plan.Plan, object []byte) {
		symbols, _ := cut.Cut(p, object)
		all := slices.Concat(symbols...)
		if len(all) != p.Room() || !slices.Equal(all[:p.Length], object) || !slices.Equal(all[p.Length:], make([]byte, p.Pad())) {
			t.Errorf("by %v: the symbols aren't the object with noughts behind", p)
		}
		for at, b := range object {
			if i, j, err := cut.Spread(p, at); err != api.OK || symbols[i][j] != b {
				t.Errorf("by %v: the byte %d doesn't stand in symbol %d at %d", p, at, i, j)
			}
		}
	})
}

// spoil: all bytes of a list are changed, spare room included.
func spoil(list []byte) {
	list = list[:cap(list)]
	for i := range list {
		list[i] ^= 0xff
	}
}

func TestHandedInStays(t *testing.T) { // spare room included, which doesn't get into the symbols
	whole := bytesOf(20)
	for _, size := range []int{1, 2, 3, 5, 7, 30} {
		for length := range 13 {
			p := planOf(t, length, size)
			object := whole[4 : 4+length]
			wanted := text(walked(size, object)...)
			symbols, _ := cut.Cut(p, object)
			if text(symbols...) != wanted {
				t.Errorf("Cut by %v: %v, wanted %s", p, symbols, wanted)
			}
			last, _ := cut.Symbol(p, object, p.Symbols-1)
			if text(last) != text(symbols[p.Symbols-1]) {
				t.Errorf("Symbol by %v: %v", p, last)
			}
			for _, symbol := range append(symbols, last) {
				spoil(symbol)
			}
			if !slices.Equal(whole, bytesOf(20)) {
				t.Fatalf("by %v: what was handed in was changed", p)
			}
		}
	}
}

func TestAnswersShareNothing(t *testing.T) { // with the object, with one another, with other answers
	objects(t, func(p plan.Plan, object []byte) {
		symbols, _ := cut.Cut(p, object)
		again, _ := cut.Cut(p, object)
		first, _ := cut.Symbol(p, object, 0)
		wanted := walked(p.Size, object)
		spoil(object)
		if !slices.EqualFunc(symbols, wanted, slices.Equal) || !slices.Equal(first, wanted[0]) {
			t.Errorf("by %v: the symbols hang on the object", p)
		}
		spoil(first)
		for _, symbol := range again {
			spoil(symbol)
		}
		for i, symbol := range symbols {
			if !slices.Equal(symbol, wanted[i]) {
				t.Fatalf("by %v: the symbol %d hangs on others", p, i)
			}
			spoil(symbol)
		}
	})
}

func TestSameAgain(t *testing.T) { // a call hangs on its arguments alone, those ahead of it and refused ones told nowhere
	objects(t, func(p plan.Plan, object []byte) {
		one, _ := cut.Cut(p, object)
		cut.Cut(plan.Plan{}, object)
		cut.Symbol(p, object, -1)
		cut.Spread(p, p.Length)
		two, err := cut.Cut(p, object)
		if err != api.OK || !slices.EqualFunc(one, two, slices.Equal) {
			t.Errorf("Cut by %v, asked again: error %d", p, err)
		}
		other := p
		other.ID++
		if three, err := cut.Cut(other, object); err != api.OK || !slices.EqualFunc(one, three, slices.Equal) {
			t.Errorf("Cut by %v, by another ID: error %d", p, err)
		}
	})
}

package glue_test

import (
	"maps"
	"math"
	"slices"
	"testing"

	"wellspring/api"
	"wellspring/cut"
	"wellspring/glue"
	"wellspring/plan"
)

// planOf: one that may be.
func planOf(t *testing.T, length, size int) plan.Plan {
	t.Helper()
	p, err := plan.Of(length, size, 7)
	if err != api.OK {
		t.Fatalf("plan of %d by %d: error %d", length, size, err)
	}
	return p
}

// symbolsOf: as many as the plan has, of its Size, without noughts, so that each of them is told from what isn't known.
func symbolsOf(p plan.Plan) [][]byte {
	symbols := make([][]byte, p.Symbols)
	for i := range symbols {
		symbols[i] = make([]byte, p.Size)
		for j := range symbols[i] {
			symbols[i][j] = byte((i*p.Size+j)%251*7%255 + 1)
		}
	}
	return symbols
}

// plans: f is asked of plans of many lengths and sizes: of no bytes, of as many as fill their symbols, and of one more and one less.
func plans(t *testing.T, f func(p plan.Plan)) {
	t.Helper()
	for size := 1; size <= 9; size++ {
		for length := range 31 {
			f(planOf(t, length, size))
		}
	}
	for _, c := range []struct{ length, size int }{
		{api.MaxSymbols - 1, 1}, {api.MaxSymbols, 1}, {3*api.MaxSymbols - 1, 3}, {3 * api.MaxSymbols, 3}, {3*api.MaxSymbols - 2, 3},
		{0, api.MaxSymbol}, {1, api.MaxSymbol}, {api.MaxSymbol - 1, api.MaxSymbol}, {api.MaxSymbol, api.MaxSymbol}, {api.MaxSymbol + 1, api.MaxSymbol},
		{3 * api.MaxSymbol, api.MaxSymbol}, {1000, 255}, {1024, 256},
	} {
		f(planOf(t, c.length, c.size))
	}
}

// wrong is a plan that may not be, and why.
type wrong struct {
	p   plan.Plan
	err api.Errno
}

// faults are such plans; of several faults the first one is told.
func faults() []wrong {
	most := math.MaxInt
	return []wrong{
		{plan.Plan{}, api.ErrSize},
		{plan.Plan{Length: -1, Size: 2, Symbols: 1}, api.ErrRange},
		{plan.Plan{Length: -1, Size: 0, Symbols: -1}, api.ErrRange},
		{plan.Plan{Length: math.MinInt, Size: math.MinInt, Symbols: math.MinInt}, api.ErrRange},
		{plan.Plan{Length: 5, Size: 0, Symbols: 3}, api.ErrSize},
		{plan.Plan{Length: 5, Size: -2, Symbols: 3}, api.ErrSize},
		{plan.Plan{Length: 5, Size: api.MaxSymbol + 1, Symbols: 1}, api.ErrSize},
		{plan.Plan{Length: most, Size: 0, Symbols: 3}, api.ErrSize},
		{plan.Plan{Length: api.MaxSymbols + 1, Size: 1, Symbols: api.MaxSymbols + 1}, api.ErrMany},
		{plan.Plan{Length: most, Size: 1, Symbols: most}, api.ErrMany},
		{plan.Plan{Length: 5, Size: 2, Symbols: 2}, api.ErrForm},
		{plan.Plan{Length: 5, Size: 2, Symbols: 4}, api.ErrForm},
		{plan.Plan{Length: 5, Size: 2, Symbols: 0}, api.ErrForm},
		{plan.Plan{Length: 5, Size: 2, Symbols: -3}, api.ErrForm},
		{plan.Plan{Length: 5, Size: 2, Symbols: most}, api.ErrForm},
		{plan.Plan{Length: 0, Size: 2, Symbols: 0}, api.ErrForm},
	}
}

// refused: Join must answer that error, and Clean that it isn't.
func refused(t *testing.T, err api.Errno, p plan.Plan, symbols ...[]byte) {
	t.Helper()
	if object, got := glue.Join(p, symbols...); len(object) != 0 || got != err {
		t.Errorf("Join of %d symbols by %v: %v, error %d, wanted %d", len(symbols), p, object, got, err)
	}
	if glue.Clean(p, symbols...) {
		t.Errorf("Clean of %d symbols by %v", len(symbols), p)
	}
}

func TestExample(t *testing.T) { // P12.1
	p := planOf(t, 5, 2)
	object, err := glue.Join(p, []byte{1, 2}, []byte{3, 4}, []byte{5, 9})
	if err != api.OK || !slices.Equal(object, []byte{1, 2, 3, 4, 5}) {
		t.Errorf("Join: %v, error %d", object, err)
	}
	if glue.Clean(p, []byte{1, 2}, []byte{3, 4}, []byte{5, 9}) {
		t.Error("Clean, with a 9 behind")
	}
	if !glue.Clean(p, []byte{1, 2}, []byte{3, 4}, []byte{5, 0}) {
		t.Error("not Clean, with a nought behind")
	}
}

func TestJoin(t *testing.T) { // P12.1: what is behind the Length isn't looked at
	plans(t, func(p plan.Plan) {
		symbols := symbolsOf(p)
		object, err := glue.Join(p, symbols...)
		if err != api.OK || !slices.Equal(object, slices.Concat(symbols...)[:p.Length]) {
			t.Errorf("Join by %v: %d bytes, error %d", p, len(object), err)
		}
	})
}

func TestClean(t *testing.T) { // P12.1: each byte behind the Length is looked at, and none ahead of it
	plans(t, func(p plan.Plan) {
		symbols := symbolsOf(p)
		last := symbols[p.Symbols-1]
		if got := glue.Clean(p, symbols...); got != (p.Pad() == 0) {
			t.Errorf("Clean by %v, no noughts behind: %t", p, got)
		}
		clear(last[p.Size-p.Pad():])
		if !glue.Clean(p, symbols...) {
			t.Errorf("not Clean by %v, noughts behind", p)
		}
		for back := 1; back <= min(p.Pad(), 40); back++ {
			for _, at := range []int{p.Size - back, p.Size - p.Pad() + back - 1} {
				for _, b := range []byte{1, 128, 255} {
					last[at] = b
					if glue.Clean(p, symbols...) {
						t.Errorf("Clean by %v, %d at %d", p, b, at)
					}
				}
				last[at] = 0
			}
		}
		for _, symbol := range symbols {
			clear(symbol)
		}
		if !glue.Clean(p, symbols...) {
			t.Errorf("not Clean by %v, noughts alone", p)
		}
	})
}

func TestWrongPlan(t *testing.T) { // P12.1, P12.2: ahead of all else
	for _, w := range faults() {
		for n := range 6 {
			symbols := slices.Repeat([][]byte{{1, 2}}, n)
			refused(t, w.err, w.p, symbols...)
			refused(t, w.err, w.p, append(symbols, []byte{1})...)
		}
		for _, known := range []map[int][]byte{nil, {}, {0: {1, 2}}, {-1: {1}}, {0: {1}}, {math.MaxInt: nil}} {
			unfilled(t, w.err, w.p, known)
		}
	}
}

func TestJoinOfMoreOrFewer(t *testing.T) { // P12.1
	plans(t, func(p plan.Plan) {
		symbols := symbolsOf(p)
		refused(t, api.ErrMany, p)
		refused(t, api.ErrMany, p, symbols[:p.Symbols-1]...)
		refused(t, api.ErrMany, p, append(symbols[:p.Symbols:p.Symbols], make([]byte, p.Size))...)
		refused(t, api.ErrMany, p, append(symbols[:p.Symbols:p.Symbols], nil)...) // ahead of one of another size
		refused(t, api.ErrMany, p, slices.Concat(symbols, symbols)...)
	})
	refused(t, api.ErrMany, planOf(t, 5, 2), []byte{1, 2}, []byte{3})
	refused(t, api.ErrMany, planOf(t, 5, 2), []byte{1, 2, 3, 4, 5, 0})
	refused(t, api.ErrMany, planOf(t, api.MaxSymbols, 1), slices.Repeat([][]byte{{1}}, api.MaxSymbols+1)...)
}

func TestJoinOfAnotherSize(t *testing.T) { // P12.1: at each place
	plans(t, func(p plan.Plan) {
		symbols := symbolsOf(p)
		for _, i := range []int{0, p.Symbols / 2, p.Symbols - 1} {
			own := symbols[i]
			for _, size := range []int{0, p.Size - 1, p.Size + 1, 2 * p.Size} {
				symbols[i] = make([]byte, size)
				refused(t, api.ErrSize, p, symbols...)
			}
			symbols[i] = nil
			refused(t, api.ErrSize, p, symbols...)
			symbols[i] = own
		}
	})
	refused(t, api.ErrSize, planOf(t, 5, 2), []byte{1, 2}, []byte{3, 4}, []byte{5}) // as long as the Length, all together
	refused(t, api.ErrSize, planOf(t, 6, 2), []byte{1, 2, 3}, []byte{4}, []byte{5, 6})
}

// filled: Fill must answer what is known, byte by byte by what layer 11 says of where each of them stands: another way than the program's.
func filled(t *testing.T, p plan.Plan, known map[int][]byte) {
	t.Helper()
	object, told, err := glue.Fill(p, known)
	if err != api.OK || len(object) != p.Length || len(told) != p.Length {
		t.Errorf("Fill by %v of %d symbols: %d bytes, %d told, error %d", p, len(known), len(object), len(told), err)
		return
	}
	for at := range p.Length {
		i, j, _ := cut.Spread(p, at)
		symbol, ok := known[i]
		wanted := byte(0)
		if ok {
			wanted = symbol[j]
		}
		if object[at] != wanted || told[at] != ok {
			t.Errorf("Fill by %v: %d, %t at %d, wanted %d, %t", p, object[at], told[at], at, wanted, ok)
			return
		}
	}
}

// unfilled: Fill must answer that error.
func unfilled(t *testing.T, wanted api.Errno, p plan.Plan, known map[int][]byte) {
	t.Helper()
	for range 4 { // a map is gone through in other orders
		if object, told, err := glue.Fill(p, known); len(object) != 0 || len(told) != 0 || err != wanted {
			t.Errorf("Fill by %v of %v: %v, %v, error %d, wanted %d", p, known, object, told, err, wanted)
		}
	}
}

// every: all symbols whose numbers may be.
func every(symbols [][]byte, may func(i int) bool) map[int][]byte {
	known := map[int][]byte{}
	for i, symbol := range symbols {
		if may(i) {
			known[i] = symbol
		}
	}
	return known
}

func TestFill(t *testing.T) { // P12.2: nothing, all, some
	plans(t, func(p plan.Plan) {
		symbols := symbolsOf(p)
		filled(t, p, nil)
		filled(t, p, map[int][]byte{})
		filled(t, p, every(symbols, func(i int) bool { return true }))
		filled(t, p, every(symbols, func(i int) bool { return i%2 == 0 }))
		filled(t, p, every(symbols, func(i int) bool { return i%3 == 1 }))
		filled(t, p, map[int][]byte{0: symbols[0]})
		filled(t, p, map[int][]byte{p.Symbols - 1: symbols[p.Symbols-1]})
		filled(t, p, every(symbols, func(i int) bool { return i != p.Symbols-1 }))
	})
}

func TestFillOfSomeSets(t *testing.T) { // P12.2: each of all sets of a few symbols
	for length := range 9 {
		for size := 1; size <= 3; size++ {
			p := planOf(t, length, size)
			symbols := symbolsOf(p)
			for set := range 1 << p.Symbols {
				filled(t, p, every(symbols, func(i int) bool { return set>>i&1 == 1 }))
			}
		}
	}
}

func TestFillOfNoughts(t *testing.T) { // P12.2: a nought that is known is told from one that isn't
	p := planOf(t, 5, 2)
	object, told, err := glue.Fill(p, map[int][]byte{1: {0, 0}})
	if err != api.OK || !slices.Equal(object, make([]byte, 5)) || !slices.Equal(told, []bool{false, false, true, true, false}) {
		t.Errorf("Fill: %v, %v, error %d", object, told, err)
	}
	object, told, err = glue.Fill(p, map[int][]byte{2: {0, 9}})
	if err != api.OK || !slices.Equal(object, make([]byte, 5)) || !slices.Equal(told, []bool{false, false, false, false, true}) {
		t.Errorf("Fill of the last one: %v, %v, error %d", object, told, err)
	}
}

func TestFillRefuses(t *testing.T) { // P12.2
	plans(t, func(p plan.Plan) {
		for _, i := range []int{-1, -2, math.MinInt, p.Symbols, p.Symbols + 1, api.MaxSymbols, api.MaxSymbols + 1, 1 << 32, math.MaxInt} {
			if i < 0 || i >= p.Symbols {
				unfilled(t, api.ErrRange, p, map[int][]byte{i: make([]byte, p.Size)})
				unfilled(t, api.ErrRange, p, map[int][]byte{i: nil}) // of one thing ErrRange is first
			}
		}
		for _, i := range []int{0, p.Symbols / 2, p.Symbols - 1} {
			for _, size := range []int{0, p.Size - 1, p.Size + 1, 2 * p.Size} {
				unfilled(t, api.ErrSize, p, map[int][]byte{i: make([]byte, size)})
			}
			unfilled(t, api.ErrSize, p, map[int][]byte{i: nil})
		}
	})
}

func TestFillRefusesByRisingNumbers(t *testing.T) { // P12.2
	p := planOf(t, 9, 2) // of 5 symbols
	good := []byte{1, 2}
	for _, c := range []struct {
		err   api.Errno
		known map[int][]byte
	}{
		{api.ErrRange, map[int][]byte{-1: good, 0: {1}}},
		{api.ErrRange, map[int][]byte{-1: {1}, 0: {1}, 4: nil}},
		{api.ErrRange, map[int][]byte{math.MinInt: good, 3: {1, 2, 3}, 5: good}},
		{api.ErrSize, map[int][]byte{4: {1}, 5: good}},
		{api.ErrSize, map[int][]byte{0: {1, 2, 3}, 5: good, math.MaxInt: nil}},
		{api.ErrSize, map[int][]byte{0: good, 1: good, 2: good, 3: good, 4: nil, 5: good, 6: good}},
		{api.ErrRange, map[int][]byte{0: good, 1: good, 2: good, 3: good, 4: good, 5: good}},
		{api.ErrRange, map[int][]byte{0: good, 5: {1}, 6: {1}}},
		{api.ErrSize, map[int][]byte{0: good, 1: {1}, 2: good}},
	} {
		for range 30 {
			unfilled(t, c.err, p, c.known)
		}
	}
}

func TestCutIsJoined(t *testing.T) { // P12.3
	plans(t, func(p plan.Plan) {
		object := slices.Concat(symbolsOf(p)...)[:p.Length]
		symbols, err := cut.Cut(p, object)
		if err != api.OK {
			t.Fatalf("Cut by %v: error %d", p, err)
		}
		if got, err := glue.Join(p, symbols...); err != api.OK || !slices.Equal(got, object) {
			t.Errorf("by %v: joined to %d bytes, error %d", p, len(got), err)
		}
		if !glue.Clean(p, symbols...) {
			t.Errorf("by %v: what was cut isn't clean", p)
		}
		got, told, err := glue.Fill(p, every(symbols, func(i int) bool { return true }))
		if err != api.OK || !slices.Equal(got, object) || slices.Contains(told, false) {
			t.Errorf("by %v: filled to %d bytes, error %d", p, len(got), err)
		}
	})
}

// spoil: all bytes of a list are changed, spare room included.
func spoil(list []byte) {
	list = list[:cap(list)]
	for i := range list {
		list[i] ^= 0xff
	}
}

// spare: the symbols as parts of one list, each with the next ones as its spare room, and that list.
func spare(p plan.Plan) ([][]byte, []byte) {
	all := append(slices.Concat(symbolsOf(p)...), 77, 78, 79)
	symbols := make([][]byte, p.Symbols)
	for i := range symbols {
		symbols[i] = all[i*p.Size : (i+1)*p.Size]
	}
	return symbols, all
}

func TestHandedInStays(t *testing.T) { // spare room included
	for _, size := range []int{1, 2, 3, 5, 7, 30} {
		for length := range 13 {
			p := planOf(t, length, size)
			symbols, all := spare(p)
			list, before := slices.Clone(symbols), slices.Clone(all)
			known := every(symbols, func(i int) bool { return i%2 == 0 })
			kept := maps.Clone(known)
			object, _ := glue.Join(p, symbols...)
			glue.Clean(p, symbols...)
			half, told, _ := glue.Fill(p, known)
			spoil(object)
			spoil(half)
			told = told[:cap(told)]
			clear(told)
			glue.Fill(p, map[int][]byte{0: symbols[0], p.Symbols: symbols[0]})
			glue.Join(p, append(symbols, symbols[0])...)
			if !slices.Equal(all, before) || !slices.EqualFunc(symbols, list, slices.Equal) || !maps.EqualFunc(known, kept, slices.Equal) {
				t.Fatalf("by %v: what was handed in was changed", p)
			}
		}
	}
}

func TestAnswersShareNothing(t *testing.T) { // with the symbols, or with other answers
	plans(t, func(p plan.Plan) {
		symbols := symbolsOf(p)
		wanted := slices.Concat(symbols...)[:p.Length]
		known := every(symbols, func(i int) bool { return true })
		one, _ := glue.Join(p, symbols...)
		two, _ := glue.Join(p, symbols...)
		three, told, _ := glue.Fill(p, known)
		four, again, _ := glue.Fill(p, known)
		spoil(one)
		spoil(three)
		clear(told[:cap(told)])
		for i, symbol := range symbols {
			spoil(symbol)
			delete(known, i)
		}
		if !slices.Equal(two, wanted) || !slices.Equal(four, wanted) || slices.Contains(again, false) {
			t.Errorf("by %v: an answer hangs on what was handed in, or on another answer", p)
		}
	})
}

func TestSameAgain(t *testing.T) { // a call hangs on its arguments alone, those ahead of it and refused ones told nowhere
	plans(t, func(p plan.Plan) {
		symbols := symbolsOf(p)
		one, _ := glue.Join(p, symbols...)
		glue.Join(plan.Plan{}, symbols...)
		glue.Fill(p, map[int][]byte{-1: nil})
		other := p
		other.ID++
		two, err := glue.Join(other, symbols...)
		if err != api.OK || !slices.Equal(one, two) {
			t.Errorf("Join by %v, asked again: error %d", p, err)
		}
	})
}

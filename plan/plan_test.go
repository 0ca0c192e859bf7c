package plan_test

import (
	"math"
	"strconv"
	"strings"
	"testing"

	"wellspring/api"
	"wellspring/plan"
)

// room is how long an object can be at most.
const room = api.MaxSymbols * api.MaxSymbol

// symbols: how many a length needs, counted one by one: another way than the program's.
func symbols(length, size int) int {
	n := 1
	for length > size*n {
		n++
	}
	return n
}

// lengths are those about the ends of symbols of that size, of up to as many as there can be.
func lengths(size int) []int {
	l := []int{0, 1, 2, 3}
	for _, n := range []int{1, 2, 3, 10, api.MaxSymbols - 1, api.MaxSymbols} {
		for _, more := range []int{-1, 0, 1} {
			if length := n*size + more; length >= 0 && length <= size*api.MaxSymbols {
				l = append(l, length)
			}
		}
	}
	return l
}

// plans: f is asked of plans that may be, of many lengths, sizes and IDs.
func plans(f func(p plan.Plan)) {
	for _, size := range []int{1, 2, 3, 7, 255, 256, 1000, api.MaxSymbol - 1, api.MaxSymbol} {
		for i, length := range lengths(size) {
			id := []uint32{0, 1, 9, 10, 4096, 1 << 31, math.MaxUint32}[i%7]
			f(plan.Plan{Length: length, Size: size, Symbols: symbols(length, size), ID: id})
		}
	}
}

// wrong is a plan that may not be, and why.
type wrong struct {
	p   plan.Plan
	err api.Errno
}

// faults are such plans; of several faults the first one is told.
func faults() []wrong {
	most := math.MaxInt
	l := []wrong{
		{plan.Plan{}, api.ErrSize},
		{plan.Plan{Symbols: 1}, api.ErrSize},
		{plan.Plan{Size: 1}, api.ErrForm},
		{plan.Plan{Length: -1, Size: 1, Symbols: 1}, api.ErrRange},
		{plan.Plan{Length: -1, Size: 1, Symbols: 0}, api.ErrRange},
		{plan.Plan{Length: -1}, api.ErrRange},
		{plan.Plan{Length: -1, Size: -1, Symbols: -1}, api.ErrRange},
		{plan.Plan{Length: -1, Size: api.MaxSymbol + 1, Symbols: 1}, api.ErrRange},
		{plan.Plan{Length: math.MinInt, Size: 1, Symbols: math.MinInt}, api.ErrRange},
		{plan.Plan{Length: math.MinInt, Size: math.MinInt, Symbols: 1}, api.ErrRange},
		{plan.Plan{Length: 5, Size: 0, Symbols: 3}, api.ErrSize},
		{plan.Plan{Length: 5, Size: -2, Symbols: 3}, api.ErrSize},
		{plan.Plan{Length: 5, Size: math.MinInt, Symbols: 3}, api.ErrSize},
		{plan.Plan{Length: 5, Size: api.MaxSymbol + 1, Symbols: 1}, api.ErrSize},
		{plan.Plan{Length: 5, Size: math.MaxInt, Symbols: 1}, api.ErrSize},
		{plan.Plan{Length: most, Size: 0, Symbols: 3}, api.ErrSize},
		{plan.Plan{Length: most, Size: api.MaxSymbol + 1, Symbols: -1}, api.ErrSize},
		{plan.Plan{Length: room + 1, Size: api.MaxSymbol, Symbols: api.MaxSymbols + 1}, api.ErrMany},
		{plan.Plan{Length: room + 1, Size: api.MaxSymbol, Symbols: api.MaxSymbols}, api.ErrMany},
		{plan.Plan{Length: api.MaxSymbols + 1, Size: 1, Symbols: api.MaxSymbols + 1}, api.ErrMany},
		{plan.Plan{Length: 2*api.MaxSymbols + 1, Size: 2, Symbols: 0}, api.ErrMany},
		{plan.Plan{Length: most, Size: 1, Symbols: most}, api.ErrMany},
		{plan.Plan{Length: most, Size: api.MaxSymbol, Symbols: 1}, api.ErrMany},
		{plan.Plan{Length: most - 1, Size: 2, Symbols: 1}, api.ErrMany},
	}
	for _, n := range []int{0, -1, -3, 2, 4, 5, api.MaxSymbols, api.MaxSymbols + 1, math.MaxInt, math.MinInt} {
		l = append(l, wrong{plan.Plan{Length: 5, Size: 2, Symbols: n, ID: 7}, api.ErrForm})
	}
	return l
}

func TestCheck(t *testing.T) { // P10.1
	plans(func(p plan.Plan) {
		if err := p.Check(); err != api.OK {
			t.Errorf("Check of %v: error %d", p, err)
		}
		for _, more := range []int{-1, 1} {
			other := p
			other.Symbols += more
			if err := other.Check(); err != api.ErrForm {
				t.Errorf("Check of %v: error %d", other, err)
			}
		}
	})
	for _, w := range faults() {
		if err := w.p.Check(); err != w.err {
			t.Errorf("Check of %v: error %d, wanted %d", w.p, err, w.err)
		}
	}
}

func TestOf(t *testing.T) { // P10.1
	plans(func(p plan.Plan) {
		if got, err := plan.Of(p.Length, p.Size, p.ID); got != p || err != api.OK {
			t.Errorf("Of(%d, %d, %d): %v, error %d", p.Length, p.Size, p.ID, got, err)
		}
	})
	for _, w := range faults() {
		if w.err == api.ErrForm { // of what it needs no other number of symbols can be
			continue
		}
		for _, id := range []uint32{0, 7, math.MaxUint32} {
			if got, err := plan.Of(w.p.Length, w.p.Size, id); got != (plan.Plan{}) || err != w.err {
				t.Errorf("Of(%d, %d, %d): %v, error %d, wanted %d", w.p.Length, w.p.Size, id, got, err, w.err)
			}
		}
	}
}

func TestExamples(t *testing.T) { // P10.1, P10.2
	p, err := plan.Of(5, 2, 0)
	if err != api.OK || p.Symbols != 3 || p.Pad() != 1 || p.Room() != 6 {
		t.Errorf("of 5 bytes: %v, error %d, pad %d, room %d", p, err, p.Pad(), p.Room())
	}
	p, err = plan.Of(0, 2, 0)
	if err != api.OK || p.Symbols != 1 || p.Pad() != 2 || p.Room() != 2 {
		t.Errorf("of 0 bytes: %v, error %d, pad %d, room %d", p, err, p.Pad(), p.Room())
	}
}

func TestText(t *testing.T) { // P10.2
	for _, c := range []struct {
		length, size int
		id           uint32
		text         string
	}{
		{0, 1, 0, "object 0 0 1 1"},
		{5, 2, 7, "object 7 5 2 3"},
		{100, 10, 1000, "object 1000 100 10 10"},
		{1, api.MaxSymbol, math.MaxUint32, "object 4294967295 1 65535 1"},
		{room, api.MaxSymbol, 1 << 31, "object 2147483648 268431360 65535 4096"},
		{api.MaxSymbols, 1, 3, "object 3 4096 1 4096"},
	} {
		p, err := plan.Of(c.length, c.size, c.id)
		if err != api.OK || p.Text() != c.text {
			t.Errorf("Text of %v: %q, wanted %q", p, p.Text(), c.text)
		}
	}
	for _, w := range faults() {
		if text := w.p.Text(); text != "" {
			t.Errorf("Text of %v: %q", w.p, text)
		}
	}
}

func TestWrittenIsRead(t *testing.T) { // P10.3
	plans(func(p plan.Plan) {
		if got, err := plan.Parse(p.Text()); got != p || err != api.OK {
			t.Errorf("Parse of %q: %v, error %d", p.Text(), got, err)
		}
	})
}

func TestPadAndRoom(t *testing.T) { // P10.2, P10.3
	plans(func(p plan.Plan) {
		pad, long := 0, 0
		for range p.Symbols {
			long += p.Size
		}
		for p.Length+pad < long {
			pad++
		}
		if p.Pad() != pad || p.Room() != long {
			t.Errorf("%v: pad %d, room %d, wanted %d and %d", p, p.Pad(), p.Room(), pad, long)
		}
		if whole := p.Pad() == p.Size; p.Pad() < 0 || p.Pad() > p.Size || whole != (p.Length == 0) {
			t.Errorf("%v: pad %d", p, p.Pad())
		}
	})
	for _, w := range faults() {
		if w.p.Pad() != 0 || w.p.Room() != 0 {
			t.Errorf("%v: pad %d, room %d", w.p, w.p.Pad(), w.p.Room())
		}
	}
}

// refused: Parse must answer that error of each text.
func refused(t *testing.T, wanted api.Errno, texts ...string) {
	t.Helper()
	for _, s := range texts {
		if got, err := plan.Parse(s); got != (plan.Plan{}) || err != wanted {
			t.Errorf("Parse of %.60q: %v, error %d, wanted %d", s, got, err, wanted)
		}
	}
}

func TestParseWords(t *testing.T) { // P10.2: words and blanks
	refused(t, api.ErrForm, "", " ", "    ", "object", "object ", "7 5 2 3", "object 7", "object 7 5", "object 7 5 2", "object 7 5 2 ",
		"object 7 5 2 3 ", " object 7 5 2 3", "object 7 5 2 3 1", "object 7 5 2 3 x", "object 7 5 2 3\n", "object 7 5 2 3\x00",
		"object  7 5 2 3", "object 7  5 2 3", "object 7 5  2 3", "object 7 5 2  3", "object 7 5 23", "object 75 2 3", "object7 5 2 3",
		"object\t7 5 2 3", "object 7\t5 2 3", "object 7 5\n2 3", "object 7 5 2\r3", "object 7 5 2\u00a03", "object\u20037 5 2 3", "object 7 5 2\v3",
		"Object 7 5 2 3", "OBJECT 7 5 2 3", "objekt 7 5 2 3", "objects 7 5 2 3", "objec 7 5 2 3", "\xff 7 5 2 3", " 7 5 2 3", "plan 7 5 2 3",
		strings.Repeat(" ", 100000), "object 7 5 2 3"+strings.Repeat(" ", 100000), strings.Repeat("object 7 5 2 3 ", 1000))
}

// four: the text of these numbers, each as it is handed in.
func four(id, length, size, symbols string) string {
	return strings.Join([]string{"object", id, length, size, symbols}, " ")
}

func TestParseDigits(t *testing.T) { // P10.2: what is no number is none at each place
	good := [4]string{"7", "5", "2", "3"}
	for i, digits := range good {
		for _, s := range []string{
			"0" + digits, "00" + digits, "00", "+" + digits, "-" + digits, "-0", "-1", digits + ".0", digits + "e0", "0x" + digits, "0b1", "0o" + digits, "1_0", digits + "_",
			"a", "x" + digits, digits + "x", digits + ",", "\u0663", "\uff13", "\xb3", digits + "\x00", "", "+", "-", ".", "Inf", "NaN",
			strings.Repeat("0", 10000) + digits, strings.Repeat("9", 10000), "18446744073709551616", "18446744073709551623", "18446744073709551615", "99999999999",
		} {
			numbers := good
			numbers[i] = s
			refused(t, api.ErrForm, four(numbers[0], numbers[1], numbers[2], numbers[3]))
		}
	}
}

func TestParseAtTheBounds(t *testing.T) { // P10.2: the ID below 2^32, the others below 2^31
	if p, err := plan.Parse("object 4294967295 5 2 3"); err != api.OK || p.ID != math.MaxUint32 {
		t.Errorf("the greatest ID: %v, error %d", p, err)
	}
	refused(t, api.ErrForm, "object 4294967296 5 2 3", "object 4294967303 5 2 3", "object 7 2147483648 2 3", "object 7 4294967301 2 3", "object 7 5 2147483648 3",
		"object 7 5 4294967298 3", "object 7 5 2 2147483648", "object 7 5 2 4294967299", "object 4294967296 5 0 3", "object 7 2147483648 0 3", "object 7 5 0 2147483648",
		"object 7 4294967296 1 1")
	refused(t, api.ErrMany, "object 7 2147483647 2 3", "object 7 2147483647 65535 4096")
	refused(t, api.ErrSize, "object 7 5 2147483647 3", "object 7 2147483647 2147483647 2147483647", "object 7 5 0 2147483647")
	refused(t, api.ErrForm, "object 7 5 2 2147483647")
}

func TestParseChecks(t *testing.T) { // P10.2: Check's error of what is built so
	refused(t, api.ErrSize, "object 0 0 0 0", "object 7 5 0 3", "object 7 5 65536 1", "object 7 268431361 65536 4096")
	refused(t, api.ErrMany, "object 7 4097 1 4097", "object 7 4097 1 4096", "object 7 268431361 65535 4097")
	refused(t, api.ErrForm, "object 7 5 2 0", "object 7 5 2 2", "object 7 5 2 4", "object 7 0 2 0", "object 7 5 2 4097", "object 07 5 0 3", "object 7 5 00 3", "object 7 04097 1 4097")
	for _, w := range faults() { // what can be written of them at all
		if p := w.p; min(p.Length, p.Size, p.Symbols) >= 0 && max(p.Length, p.Size, p.Symbols) <= math.MaxInt32 {
			refused(t, w.err, four("7", strconv.Itoa(p.Length), strconv.Itoa(p.Size), strconv.Itoa(p.Symbols)))
		}
	}
}

func TestParseTurns(t *testing.T) { // P10.2: the numbers stand in this order
	p, err := plan.Parse("object 11 2000 30 67")
	if err != api.OK || p != (plan.Plan{Length: 2000, Size: 30, Symbols: 67, ID: 11}) {
		t.Errorf("Parse: %v, error %d", p, err)
	}
}

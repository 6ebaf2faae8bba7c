package line_test

import (
	"math"
	"slices"
	"strings"
	"testing"

	"rainbook/api"
	"rainbook/line"
	"rainbook/zig"
)

// read makes bits of a text: '1' is true, '0' false; all else parts groups.
func read(text string) []bool {
	out := []bool{}
	for _, r := range text {
		if r == '0' || r == '1' {
			out = append(out, r == '1')
		}
	}
	return out
}

func text(l []bool) string {
	out := []byte{}
	for _, bit := range l {
		if bit {
			out = append(out, '1')
		} else {
			out = append(out, '0')
		}
	}
	return string(out)
}

// told writes numbers one behind the other, as chapter 2 does.
func told(t *testing.T, numbers ...int) string {
	t.Helper()
	l := []bool{}
	for _, v := range numbers {
		var e api.Errno
		if l, e = zig.Put(l, v); e != api.OK {
			t.Fatalf("zig.Put of %d: %d", v, e)
		}
	}
	return text(l)
}

// rising answers n points, one at each time from 0 on.
func rising(n int) []api.Point {
	out := make([]api.Point, n)
	for i := range n {
		out[i] = api.Point{T: i, V: 3 * i}
	}
	return out
}

// fine are lists of points that may be, the outermost ones among them.
func fine() [][]api.Point {
	return [][]api.Point{
		nil,
		{},
		{{T: 0, V: 0}},
		{{T: api.MaxTime, V: api.MaxValue}},
		{{T: api.MaxTime, V: -api.MaxValue}},
		{{T: 10, V: 5}, {T: 20, V: 5}, {T: 30, V: 7}},
		{{T: 0, V: 0}, {T: 1, V: -1}, {T: 3, V: 2}},
		{{T: 7, V: 1}, {T: 8, V: 1}, {T: 100, V: 1}, {T: 101, V: 1}},
		{{T: 0, V: -api.MaxValue}, {T: api.MaxTime, V: api.MaxValue}},
		{{T: 0, V: api.MaxValue}, {T: api.MaxTime - 1, V: -api.MaxValue}, {T: api.MaxTime, V: api.MaxValue}},
		{{T: api.MaxTime - 1, V: 0}, {T: api.MaxTime, V: 0}},
		rising(api.MaxPoints - 1),
		rising(api.MaxPoints),
	}
}

// wrong are lists of points that may not be, and what is told of them.
func wrong() []struct {
	l    []api.Point
	want api.Errno
} {
	return []struct {
		l    []api.Point
		want api.Errno
	}{
		{rising(api.MaxPoints + 1), api.ErrMany},
		{rising(1000), api.ErrMany},
		// Too many is told ahead of what is wrong with one of them.
		{make([]api.Point, api.MaxPoints+1), api.ErrMany},
		{append([]api.Point{{T: -1}}, rising(api.MaxPoints)...), api.ErrMany},

		{[]api.Point{{T: -1}}, api.ErrRange},
		{[]api.Point{{T: api.MaxTime + 1}}, api.ErrRange},
		{[]api.Point{{V: api.MaxValue + 1}}, api.ErrRange},
		{[]api.Point{{V: -api.MaxValue - 1}}, api.ErrRange},
		{[]api.Point{{T: math.MinInt}}, api.ErrRange},
		{[]api.Point{{T: math.MaxInt}}, api.ErrRange},
		{[]api.Point{{V: math.MinInt}}, api.ErrRange},
		{[]api.Point{{V: math.MaxInt}}, api.ErrRange},
		{[]api.Point{{T: 1}, {T: 2}, {T: api.MaxTime + 1}}, api.ErrRange},
		{[]api.Point{{T: 1}, {T: 2}, {T: 3, V: -api.MaxValue - 1}}, api.ErrRange},

		{[]api.Point{{T: 0}, {T: 0}}, api.ErrLate},
		{[]api.Point{{T: 3}, {T: 3, V: 9}}, api.ErrLate},
		{[]api.Point{{T: 3}, {T: 2}}, api.ErrLate},
		{[]api.Point{{T: api.MaxTime}, {T: api.MaxTime}}, api.ErrLate},
		{[]api.Point{{T: 1}, {T: 5}, {T: 3}}, api.ErrLate},
		{make([]api.Point, api.MaxPoints), api.ErrLate},

		// Of one point, its range comes first; of several, the first one that is wrong.
		{[]api.Point{{T: 3}, {T: -1}}, api.ErrRange},
		{[]api.Point{{T: 3}, {T: 3, V: api.MaxValue + 1}}, api.ErrRange},
		{[]api.Point{{T: -1}, {T: -1}}, api.ErrRange},
		{[]api.Point{{T: 3}, {T: 2}, {T: -1}}, api.ErrLate},
		{[]api.Point{{T: 3}, {T: 3}, {T: 4, V: api.MaxValue + 1}}, api.ErrLate},
		{[]api.Point{{T: 3, V: api.MaxValue + 1}, {T: 3}}, api.ErrRange},
	}
}

// P3.1: points that may be are fine.
func TestCheck(t *testing.T) {
	for _, l := range fine() {
		if e := line.Check(l); e != api.OK {
			t.Errorf("Check(%v): %d, want OK", l, e)
		}
	}
}

// P3.1: what is wrong is told in the order of the chapter.
func TestCheckRefuses(t *testing.T) {
	for _, c := range wrong() {
		if e := line.Check(c.l); e != c.want {
			t.Errorf("Check(%v): %d, want %d", c.l, e, c.want)
		}
	}
}

// P3.2: the bits are two numbers a point, written out by hand.
func TestPackBits(t *testing.T) {
	for _, c := range []struct {
		l    []api.Point
		bits string
	}{
		{nil, ""},
		{[]api.Point{{T: 0, V: 0}}, "0000 0000"},
		{[]api.Point{{T: 3, V: -2}}, "0110 0011"},
		{[]api.Point{{T: 10, V: 5}, {T: 20, V: 5}, {T: 30, V: 7}}, "1100 0010 1010 0001  0000 0000  0000 0100"},
		{[]api.Point{{T: 0, V: 0}, {T: 1, V: -1}, {T: 3, V: 2}}, "0000 0000  0010 0001  0010 0110"},
		// The steps are 2, 5, 1: more by 2, by 3, by -4.
		{[]api.Point{{T: 2, V: 1}, {T: 7, V: 1}, {T: 8, V: 0}}, "0100 0010  0110 0000  0111 0001"},
	} {
		if got, e := line.Pack(c.l); text(got) != text(read(c.bits)) || e != api.OK {
			t.Errorf("Pack(%v): %s %d, want %s", c.l, text(got), e, c.bits)
		}
	}
}

// P3.2: at the outermost points, too, it is the steps' changes and the values' that are put.
func TestPackOutermost(t *testing.T) {
	l := []api.Point{{T: 0, V: api.MaxValue}, {T: api.MaxTime - 1, V: -api.MaxValue}, {T: api.MaxTime, V: api.MaxValue}}
	want := told(t, 0, api.MaxValue, api.MaxTime-1, -2*api.MaxValue, 2-api.MaxTime, 2*api.MaxValue)
	if got, e := line.Pack(l); text(got) != want || e != api.OK {
		t.Errorf("Pack(%v): %s %d, want %s", l, text(got), e, want)
	}
}

// P3.2, P3: Pack tells Check's error, and nothing with it.
func TestPackRefuses(t *testing.T) {
	for _, c := range wrong() {
		if got, e := line.Pack(c.l); len(got) != 0 || e != c.want {
			t.Errorf("Pack(%v): %s %d, want %d alone", c.l, text(got), e, c.want)
		}
	}
}

// P3.2: the points of bits that are written out.
func TestUnpack(t *testing.T) {
	for _, c := range []struct {
		bits string
		want []api.Point
	}{
		{"", nil},
		{"0000 0000", []api.Point{{T: 0, V: 0}}},
		{"0110 0011", []api.Point{{T: 3, V: -2}}},
		{"1100 0010 1010 0001  0000 0000  0000 0100", []api.Point{{T: 10, V: 5}, {T: 20, V: 5}, {T: 30, V: 7}}},
		{"0100 0010  0110 0000  0111 0001", []api.Point{{T: 2, V: 1}, {T: 7, V: 1}, {T: 8, V: 0}}},
		{told(t, 0, -api.MaxValue, api.MaxTime, 2*api.MaxValue), []api.Point{{T: 0, V: -api.MaxValue}, {T: api.MaxTime, V: api.MaxValue}}},
		{"0010 0000" + strings.Repeat("0000 0000", 39), func() []api.Point {
			l := make([]api.Point, 40)
			for i := range l {
				l[i].T = i + 1
			}
			return l
		}()},
	} {
		if got, e := line.Unpack(read(c.bits), len(c.want)); !slices.Equal(got, c.want) || e != api.OK {
			t.Errorf("Unpack(%s, %d): %v %d, want %v", c.bits, len(c.want), got, e, c.want)
		}
	}
}

// P3.2, P3: how many there are is asked ahead of all bits.
func TestUnpackRefusesMany(t *testing.T) {
	for _, n := range []int{-1, api.MaxPoints + 1, math.MinInt, math.MaxInt} {
		for _, b := range []string{"", "0", "1000 0000", "0000 0000", "0010 0000" + strings.Repeat("0000 0000", 40)} {
			if got, e := line.Unpack(read(b), n); len(got) != 0 || e != api.ErrMany {
				t.Errorf("Unpack(%s, %d): %v %d, want ErrMany alone", b, n, got, e)
			}
		}
	}
}

// endless is no number: its 8th group says that there are more.
const endless = "1000 1000 1000 1000 1000 1000 1000 1001"

// P3.2, P3: bits that aren't numbers, the first of them first.
func TestUnpackRefusesBits(t *testing.T) {
	for _, c := range []struct {
		bits string
		n    int
		want api.Errno
	}{
		{"", 1, api.ErrTorn},
		{"000", 1, api.ErrTorn},
		{"0000", 1, api.ErrTorn},
		{"0000 000", 1, api.ErrTorn},
		{"1000", 1, api.ErrTorn},
		{"0000 0000", 2, api.ErrTorn},
		{"0000 0000 0010", 2, api.ErrTorn},
		{"0010 0000" + strings.Repeat("0000 0000", 38) + "0000 000", 40, api.ErrTorn},
		{"1000 0000 0000", 1, api.ErrForm},
		{"0000 1000 0000", 1, api.ErrForm},
		{"0000 0000 0010 1001 0000", 2, api.ErrForm},
		{endless + "0000", 1, api.ErrRange},
		{"0000" + endless, 1, api.ErrRange},
		{"1000 0000" + endless, 1, api.ErrForm},
		{endless + "1000 0000", 1, api.ErrRange},
		// Both numbers are taken ahead of what is wrong with the point.
		{"0001", 1, api.ErrTorn},
		{"0001 000", 1, api.ErrTorn},
		{"0001 1000 0000", 1, api.ErrForm},
		{"0000 0000 0000", 2, api.ErrTorn},
		{"0000 0000 0000 1000 0000", 2, api.ErrForm},
		// Bits that are left.
		{"0", 0, api.ErrTorn},
		{"1", 0, api.ErrTorn},
		{"1000 0000", 0, api.ErrTorn},
		{endless, 0, api.ErrTorn},
		{"0000 0000 0", 1, api.ErrTorn},
		{"0000 0000 1", 1, api.ErrTorn},
		{"0000 0000 0010 0000", 1, api.ErrTorn},
		{"0010 0000" + strings.Repeat("0000 0000", 40), 40, api.ErrTorn},
	} {
		if got, e := line.Unpack(read(c.bits), c.n); len(got) != 0 || e != c.want {
			t.Errorf("Unpack(%s, %d): %v %d, want %d alone", c.bits, c.n, got, e, c.want)
		}
	}
}

// P3.2, P3: numbers of which no points may be made; the first such point, ahead of what is wrong behind it.
func TestUnpackRefusesPoints(t *testing.T) {
	for _, c := range []struct {
		numbers []int
		behind  string
		n       int
		want    api.Errno
	}{
		{[]int{-1, 0}, "", 1, api.ErrRange},
		{[]int{api.MaxTime + 1, 0}, "", 1, api.ErrRange},
		{[]int{0, api.MaxValue + 1}, "", 1, api.ErrRange},
		{[]int{0, -api.MaxValue - 1}, "", 1, api.ErrRange},
		{[]int{api.MaxNumber, api.MaxNumber}, "", 1, api.ErrRange},
		{[]int{-api.MaxNumber, -api.MaxNumber}, "", 1, api.ErrRange},
		{[]int{api.MaxTime, 0, 1 - api.MaxTime, 0}, "", 2, api.ErrRange},
		{[]int{1, api.MaxValue, 0, 1}, "", 2, api.ErrRange},
		{[]int{1, -api.MaxValue, 0, -1}, "", 2, api.ErrRange},
		{[]int{0, 0, 0, 0}, "", 2, api.ErrLate},
		{[]int{5, 0, -5, 0}, "", 2, api.ErrLate},
		{[]int{5, 0, -7, 0}, "", 2, api.ErrLate},
		{[]int{1, 0, 0, 0, -1, 0}, "", 3, api.ErrLate},
		// A point that is both late and out of range.
		{[]int{5, 0, -11, 0}, "", 2, api.ErrRange},
		{[]int{0, 0, 0, api.MaxValue + 1}, "", 2, api.ErrRange},
		// The first wrong point, not a later one or later bits.
		{[]int{0, 0, 0, 0, -1, 0}, "", 3, api.ErrLate},
		{[]int{-1, 0, 1, 0}, "", 2, api.ErrRange},
		{[]int{-1, 0}, "", 2, api.ErrRange},
		{[]int{-1, 0}, "000", 2, api.ErrRange},
		{[]int{-1, 0}, "1000 0000", 2, api.ErrRange},
		{[]int{-1, 0}, "0", 1, api.ErrRange},
		{[]int{0, 0, 0, 0}, "", 3, api.ErrLate},
		{[]int{0, 0, 0, 0}, "1000 0000", 3, api.ErrLate},
		{[]int{0, 0, 0, 0}, endless, 3, api.ErrLate},
		{[]int{0, 0, 0, 0}, "1", 2, api.ErrLate},
		// Values that go out of range and come back may not be either.
		{[]int{1, api.MaxValue + 1, 0, -1}, "", 2, api.ErrRange},
	} {
		b := told(t, c.numbers...) + c.behind
		if got, e := line.Unpack(read(b), c.n); len(got) != 0 || e != c.want {
			t.Errorf("Unpack of %v and %q, %d: %v %d, want %d alone", c.numbers, c.behind, c.n, got, e, c.want)
		}
	}
}

// P1: bits far beyond what the points need are refused, too.
func TestUnpackOfManyBitsEnds(t *testing.T) {
	for _, c := range []struct {
		group string
		want  api.Errno
	}{{"0000", api.ErrLate}, {"0010", api.ErrTorn}, {"1000", api.ErrRange}, {"1111", api.ErrRange}} {
		if _, e := line.Unpack(read(strings.Repeat(c.group, 10000)), api.MaxPoints); e != c.want {
			t.Errorf("10000 groups %s: %d, want %d", c.group, e, c.want)
		}
	}
}

// P2: a list that has nothing in it may be nil.
func TestNil(t *testing.T) {
	if e := line.Check(nil); e != api.OK {
		t.Errorf("Check(nil): %d", e)
	}
	if got, e := line.Pack(nil); len(got) != 0 || e != api.OK {
		t.Errorf("Pack(nil): %s %d", text(got), e)
	}
	if got, e := line.Unpack(nil, 0); len(got) != 0 || e != api.OK {
		t.Errorf("Unpack(nil, 0): %v %d", got, e)
	}
	if got, e := line.Unpack(nil, 1); len(got) != 0 || e != api.ErrTorn {
		t.Errorf("Unpack(nil, 1): %v %d, want ErrTorn alone", got, e)
	}
}

// scramble changes everything of l and of the spare room behind it, so that shared memory is seen.
func scramble[E any](l []E, change func(E) E) {
	l = l[:cap(l)]
	for i := range l {
		l[i] = change(l[i])
	}
}

func flip(bit bool) bool { return !bit }

func move(p api.Point) api.Point { return api.Point{T: p.T + 1, V: p.V - 1} }

// P2: points that are handed in are only read, and so is the spare room behind them, which isn't packed.
func TestPackOnlyReads(t *testing.T) {
	for _, l := range fine() {
		whole := append(slices.Clone(l), rising(50)...)
		before := slices.Clone(whole)
		want, _ := line.Pack(l)
		got, e := line.Pack(whole[:len(l)])
		if !slices.Equal(got, want) || e != api.OK || line.Check(whole[:len(l)]) != api.OK {
			t.Errorf("Pack(%v) with spare room: %s %d, want %s", l, text(got), e, text(want))
		}
		scramble(got, flip)
		if again, _ := line.Pack(l); !slices.Equal(again, want) {
			t.Errorf("Pack(%v): %s, then %s", l, text(want), text(again))
		}
		if !slices.Equal(whole, before) {
			t.Errorf("Pack: %v was handed in, is %v", before, whole)
		}
	}
}

// P2: bits that are handed in are only read, and the spare room behind them isn't unpacked.
func TestUnpackOnlyReads(t *testing.T) {
	for _, l := range fine() {
		b, _ := line.Pack(l)
		whole := append(slices.Clone(b), read("0000 0000 1111 0000")...)
		before := slices.Clone(whole)
		got, e := line.Unpack(whole[:len(b)], len(l))
		if !slices.Equal(got, l) || e != api.OK {
			t.Errorf("Unpack with spare room: %v %d, want %v", got, e, l)
		}
		scramble(got, move)
		if again, _ := line.Unpack(b, len(l)); !slices.Equal(again, l) {
			t.Errorf("Unpack: %v, then %v", l, again)
		}
		if !slices.Equal(whole, before) {
			t.Errorf("Unpack: %s was handed in, is %s", text(before), text(whole))
		}
	}
	whole := read("0000 0000")
	if _, e := line.Unpack(whole[:7], 1); e != api.ErrTorn {
		t.Errorf("Unpack of 7 bits with spare room: %d, want ErrTorn", e)
	}
}

// back asks whether Unpack of Pack is the points.
func back(t *testing.T, l []api.Point) {
	t.Helper()
	b, e := line.Pack(l)
	got, f := line.Unpack(b, len(l))
	if !slices.Equal(got, l) || e != api.OK || f != api.OK {
		t.Fatalf("%v: packed %s %d, unpacked %v %d", l, text(b), e, got, f)
	}
}

// P3.3: of the fine lists, and of all short ones of small times and values.
func TestUnpackOfPack(t *testing.T) {
	for _, l := range fine() {
		back(t, l)
	}
	for first := range 12 {
		for second := first + 1; second < 14; second++ {
			for third := second + 1; third < 16; third++ {
				for v := -9; v <= 9; v++ {
					back(t, []api.Point{{T: first, V: v}, {T: second, V: -2 * v}, {T: third, V: 3 - v}})
				}
			}
		}
	}
}

// series answers n points whose steps and values jump widely; each seed gives others.
func series(seed, n int) []api.Point {
	out := make([]api.Point, n)
	state, at := uint64(seed), -1
	next := func(below int) int {
		state = state*6364136223846793005 + 1442695040888963407
		return int(state>>33) % below
	}
	for i := range n {
		at += 1 + next(1+seed%2400)
		out[i] = api.Point{T: at, V: next(2*api.MaxValue+1) - api.MaxValue}
	}
	return out
}

// P3.3: of long lists whose steps change much.
func TestUnpackOfPackOfMany(t *testing.T) {
	for seed := range 2500 {
		back(t, series(seed, seed%(api.MaxPoints+1)))
	}
}

// P3.3: of all lists of up to 16 bits, those that are points are the ones that Pack writes.
func TestPackOfUnpack(t *testing.T) {
	seen := 0
	for width := range 17 {
		for number := range 1 << width {
			b := make([]bool, width)
			for i := range b {
				b[i] = number>>i&1 == 1
			}
			for n := range 3 {
				l, e := line.Unpack(b, n)
				if e != api.OK {
					continue
				}
				seen++
				if got, f := line.Pack(l); f != api.OK || !slices.Equal(got, b) {
					t.Fatalf("%s are %v, packed as %s %d", text(b), l, text(got), f)
				}
			}
		}
	}
	if seen == 0 {
		t.Error("no bits were points")
	}
}

package bits_test

import (
	"math"
	"slices"
	"testing"

	"rainbook/api"
	"rainbook/bits"
)

// read makes bits of a text: '1' is true, all else false.
func read(text string) []bool {
	out := []bool{}
	for _, r := range text {
		out = append(out, r == '1')
	}
	return out
}

func text(l []bool) string {
	out := []byte{}
	for _, bit := range l {
		if bit {
			out = append(out, '1')
		} else {
			out = append(out, '0')
		}
	}
	return string(out)
}

// roomy makes bits with spare room behind them, all of it true, and answers the whole of it too.
func roomy(l string, spare int) (part, whole []bool) {
	whole = read(l)
	for range spare {
		whole = append(whole, true)
	}
	return whole[:len(l)], whole
}

const (
	zeros40 = "0000000000000000000000000000000000000000"
	ones40  = "1111111111111111111111111111111111111111"
)

// P1.1: l, and behind it n in width bits, the greatest one first.
func TestPut(t *testing.T) {
	for _, c := range []struct {
		l        string
		n, width int
		want     string
	}{
		{"", 0, 0, ""},
		{"101", 0, 0, "101"},
		{"", 0, 1, "0"},
		{"", 1, 1, "1"},
		{"", 1, 4, "0001"},
		{"", 8, 4, "1000"},
		{"", 6, 3, "110"},
		{"1", 5, 4, "10101"},
		{"0110", 10, 5, "011001010"},
		{"", 255, 8, "11111111"},
		{"", 0, api.MaxWidth, zeros40},
		{"", 1, api.MaxWidth, zeros40[1:] + "1"},
		{"", 1 << 39, api.MaxWidth, "1" + zeros40[1:]},
		{"01", 1<<40 - 1, api.MaxWidth, "01" + ones40},
	} {
		got, e := bits.Put(read(c.l), c.n, c.width)
		if text(got) != c.want || e != api.OK {
			t.Errorf("Put(%s, %d, %d): %s %d, want %s", c.l, c.n, c.width, text(got), e, c.want)
		}
	}
}

// P1.1: the first width bits are the number, the others are left.
func TestTake(t *testing.T) {
	for _, c := range []struct {
		l     string
		width int
		n     int
		rest  string
	}{
		{"", 0, 0, ""},
		{"101", 0, 0, "101"},
		{"0", 1, 0, ""},
		{"1", 1, 1, ""},
		{"110", 3, 6, ""},
		{"011", 2, 1, "1"},
		{"100110", 4, 9, "10"},
		{zeros40, api.MaxWidth, 0, ""},
		{ones40, api.MaxWidth, 1<<40 - 1, ""},
		{"1" + zeros40, api.MaxWidth, 1 << 39, "0"},
		{zeros40 + ones40, 39, 0, "0" + ones40},
	} {
		n, rest, e := bits.Take(read(c.l), c.width)
		if n != c.n || text(rest) != c.rest || e != api.OK {
			t.Errorf("Take(%s, %d): %d %s %d, want %d %s", c.l, c.width, n, text(rest), e, c.n, c.rest)
		}
	}
}

// P1.1, P3: with an error there is nothing else.
func TestPutRefuses(t *testing.T) {
	type call struct{ n, width int }
	calls := []call{
		{0, -1}, {0, api.MaxWidth + 1}, {0, math.MinInt}, {0, math.MaxInt}, {0, 64}, {1, -1},
		{1, 0}, {-1, 0}, {-1, 1}, {-1, api.MaxWidth},
		{math.MinInt, api.MaxWidth}, {math.MaxInt, api.MaxWidth}, {math.MinInt, math.MinInt},
	}
	for width := range api.MaxWidth + 1 {
		calls = append(calls, call{1 << width, width}, call{1<<width + 1, width}, call{-1 << width, width})
	}
	for _, l := range []string{"", "1", "0110"} {
		for _, c := range calls {
			got, e := bits.Put(read(l), c.n, c.width)
			if len(got) != 0 || e != api.ErrRange {
				t.Errorf("Put(%s, %d, %d): %s %d, want ErrRange alone", l, c.n, c.width, text(got), e)
			}
		}
	}
}

// P1.1, P3: ErrRange is told ahead of ErrTorn, and nothing with either.
func TestTakeRefuses(t *testing.T) {
	for _, c := range []struct {
		l     string
		width int
		want  api.Errno
	}{
		{"", -1, api.ErrRange},
		{"111", -1, api.ErrRange},
		{"", api.MaxWidth + 1, api.ErrRange},
		{ones40 + "1", api.MaxWidth + 1, api.ErrRange},
		{ones40 + ones40, 64, api.ErrRange},
		{"1", math.MinInt, api.ErrRange},
		{"1", math.MaxInt, api.ErrRange},
		{"", 1, api.ErrTorn},
		{"1", 2, api.ErrTorn},
		{"", api.MaxWidth, api.ErrTorn},
		{ones40[1:], api.MaxWidth, api.ErrTorn},
	} {
		n, rest, e := bits.Take(read(c.l), c.width)
		if n != 0 || len(rest) != 0 || e != c.want {
			t.Errorf("Take(%s, %d): %d %s %d, want %d alone", c.l, c.width, n, text(rest), e, c.want)
		}
	}
}

// P2: a list that has nothing in it may be nil.
func TestNil(t *testing.T) {
	if got, e := bits.Put(nil, 2, 2); text(got) != "10" || e != api.OK {
		t.Errorf("Put(nil, 2, 2): %s %d", text(got), e)
	}
	if n, rest, e := bits.Take(nil, 0); n != 0 || len(rest) != 0 || e != api.OK {
		t.Errorf("Take(nil, 0): %d %s %d", n, text(rest), e)
	}
	if _, _, e := bits.Take(nil, 1); e != api.ErrTorn {
		t.Errorf("Take(nil, 1): %d, want ErrTorn", e)
	}
}

// P2: what is handed in is only read, and so is the spare room behind it.
func TestPutOnlyReads(t *testing.T) {
	for _, width := range []int{0, 3, 8} {
		part, whole := roomy("0101", 8)
		before := slices.Clone(whole)
		got, _ := bits.Put(part, 0, width)
		flip(got)
		if !slices.Equal(whole, before) {
			t.Errorf("Put in %d bits: %s was handed in, is %s", width, text(before), text(whole))
		}
	}
}

// P2: spare room that Take doesn't own is neither read as bits nor answered.
func TestTakeOnlyReads(t *testing.T) {
	for _, width := range []int{0, 1, 4} {
		part, whole := roomy("0101", 8)
		before := slices.Clone(whole)
		_, rest, _ := bits.Take(part, width)
		flip(rest)
		if !slices.Equal(whole, before) {
			t.Errorf("Take of %d bits: %s was handed in, is %s", width, text(before), text(whole))
		}
	}
	part, _ := roomy("0101", 8)
	if _, _, e := bits.Take(part, 5); e != api.ErrTorn {
		t.Errorf("Take of 5 of 4 bits with spare room: %d, want ErrTorn", e)
	}
}

// flip changes every bit of l and of the spare room behind it, so that shared memory is seen.
func flip(l []bool) {
	l = l[:cap(l)]
	for i := range l {
		l[i] = !l[i]
	}
}

// P1.2: what is put is taken, whatever lies behind it.
func TestPutIsTaken(t *testing.T) {
	for width := range api.MaxWidth + 1 {
		for _, n := range numbersOf(width) {
			for _, behind := range []string{"", "0", "1", "0110"} {
				l, e := bits.Put(nil, n, width)
				got, rest, f := bits.Take(append(l, read(behind)...), width)
				if len(l) != width || got != n || text(rest) != behind || e != api.OK || f != api.OK {
					t.Errorf("%d in %d bits ahead of %q: put %s %d, taken %d %q %d", n, width, behind, text(l), e, got, text(rest), f)
				}
			}
		}
	}
}

// numbersOf answers all numbers of a small width, and some of a great one, its least and greatest among them.
func numbersOf(width int) []int {
	out := []int{}
	if width <= 8 {
		for n := range 1 << width {
			out = append(out, n)
		}
		return out
	}
	for shift := range width {
		out = append(out, 1<<shift, 1<<shift-1, (1<<width-1)>>shift, (1<<width-1)/(shift+3))
	}
	return append(out, 1<<width-1, 1<<width-2)
}

// P1.2: numbers that are put one behind the other are taken in that order.
func TestManyArePutAndTaken(t *testing.T) {
	l := []bool{}
	for width := range api.MaxWidth + 1 {
		var e api.Errno
		if l, e = bits.Put(l, (1<<width)/3, width); e != api.OK {
			t.Fatalf("width %d: put: %d", width, e)
		}
	}
	for width := range api.MaxWidth + 1 {
		n, rest, e := bits.Take(l, width)
		if n != (1<<width)/3 || e != api.OK {
			t.Fatalf("width %d: taken %d %d", width, n, e)
		}
		l = rest
	}
	if len(l) != 0 {
		t.Errorf("%s is left", text(l))
	}
}

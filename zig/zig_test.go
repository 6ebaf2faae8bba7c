package zig_test

import (
	"math"
	"slices"
	"strings"
	"testing"

	"rainbook/api"
	"rainbook/zig"
)

// read makes bits of a text: '1' is true, '0' false; all else parts groups.
func read(text string) []bool {
	out := []bool{}
	for _, r := range text {
		if r == '0' || r == '1' {
			out = append(out, r == '1')
		}
	}
	return out
}

func text(l []bool) string {
	out := []byte{}
	for _, bit := range l {
		if bit {
			out = append(out, '1')
		} else {
			out = append(out, '0')
		}
	}
	return string(out)
}

// codes are numbers and their bits, written out by hand: those beside each change of length among them.
var codes = []struct {
	v    int
	bits string
}{
	{0, "0000"}, {-1, "0001"}, {1, "0010"}, {-2, "0011"}, {2, "0100"}, {-3, "0101"}, {3, "0110"}, {-4, "0111"},
	{4, "1000 0001"}, {-5, "1001 0001"}, {5, "1010 0001"}, {-8, "1111 0001"}, {8, "1000 0010"},
	{10, "1100 0010"}, {31, "1110 0111"}, {-32, "1111 0111"},
	{32, "1000 1000 0001"}, {-33, "1001 1000 0001"}, {-256, "1111 1111 0111"},
	{256, "1000 1000 1000 0001"}, {-2048, "1111 1111 1111 0111"},
	{2048, "1000 1000 1000 1000 0001"}, {-16384, "1111 1111 1111 1111 0111"},
	{16384, "1000 1000 1000 1000 1000 0001"}, {-131072, "1111 1111 1111 1111 1111 0111"},
	{131072, "1000 1000 1000 1000 1000 1000 0001"}, {-1048576, "1111 1111 1111 1111 1111 1111 0111"},
	{1048576, "1000 1000 1000 1000 1000 1000 1000 0001"},
	{-api.MaxNumber, "1111 1111 1111 1000 1001 1100 1110 0011"},
	{api.MaxNumber, "1000 1000 1000 1001 1001 1100 1110 0011"},
}

// P2.1: l, and behind it v, folded, in groups, the least three bits first.
func TestPut(t *testing.T) {
	for _, c := range codes {
		for _, l := range []string{"", "0", "1", "01101"} {
			want := l + text(read(c.bits))
			if got, e := zig.Put(read(l), c.v); text(got) != want || e != api.OK {
				t.Errorf("Put(%s, %d): %s %d, want %s", l, c.v, text(got), e, want)
			}
		}
	}
}

// P2.2: the number, and the bits behind it.
func TestTake(t *testing.T) {
	for _, c := range codes {
		for _, behind := range []string{"", "0", "1", "0000", "1000 0001", "0110 1"} {
			v, rest, e := zig.Take(read(c.bits + behind))
			if v != c.v || text(rest) != text(read(behind)) || e != api.OK {
				t.Errorf("Take(%s + %s): %d %s %d, want %d", c.bits, behind, v, text(rest), e, c.v)
			}
		}
	}
}

// P2.1, P3: beyond the greatest number either way there is an error alone.
func TestPutRefuses(t *testing.T) {
	for _, v := range []int{api.MaxNumber + 1, -api.MaxNumber - 1, 2 * api.MaxNumber, math.MaxInt32, math.MinInt32, math.MaxInt, math.MinInt, math.MinInt + 1} {
		for _, l := range []string{"", "1", "0110"} {
			if got, e := zig.Put(read(l), v); len(got) != 0 || e != api.ErrRange {
				t.Errorf("Put(%s, %d): %s %d, want ErrRange alone", l, v, text(got), e)
			}
		}
	}
}

// P2.2, P3: the first group that is wrong tells which error it is, and nothing comes with it.
func TestTakeRefuses(t *testing.T) {
	for _, c := range []struct {
		bits string
		want api.Errno
	}{
		{"", api.ErrTorn},
		{"0", api.ErrTorn},
		{"000", api.ErrTorn},
		{"111", api.ErrTorn},
		{"1000", api.ErrTorn},
		{"1001 000", api.ErrTorn},
		{"1111 1111 1111 1111 1111 1111 1111", api.ErrTorn},
		{"1000 1000 1000 1000 1000 1000 1000 000", api.ErrTorn},
		{"1000 0000", api.ErrForm},
		{"1001 0000", api.ErrForm},
		{"1111 0000 1111", api.ErrForm},
		{"1001 1000 0000", api.ErrForm},
		{"1111 1111 1111 1111 1111 1111 1111 0000", api.ErrForm},
		// 8000001 is one more than the greatest number folded, and the next ones.
		{"1001 1000 1000 1001 1001 1100 1110 0011", api.ErrRange},
		{"1010 1000 1000 1001 1001 1100 1110 0011", api.ErrRange},
		{"1000 1000 1000 1000 1000 1000 1000 0100", api.ErrRange},
		{"1111 1111 1111 1111 1111 1111 1111 0111", api.ErrRange},
		// The 8th group may not say that there are more, whatever is behind it.
		{"1000 1000 1000 1000 1000 1000 1000 1000", api.ErrRange},
		{"1000 1000 1000 1000 1000 1000 1000 1001", api.ErrRange},
		{"1000 1000 1000 1000 1000 1000 1000 1000 0000", api.ErrRange},
		{"1000 1000 1000 1000 1000 1000 1000 1000 0001", api.ErrRange},
		{"1000 1000 1000 1000 1000 1000 1000 1001 000", api.ErrRange},
		{"1111 1111 1111 1111 1111 1111 1111 1111 1111", api.ErrRange},
	} {
		v, rest, e := zig.Take(read(c.bits))
		if v != 0 || len(rest) != 0 || e != c.want {
			t.Errorf("Take(%s): %d %s %d, want %d alone", c.bits, v, text(rest), e, c.want)
		}
	}
}

// P1: a long list of groups that never end is refused like a short one.
func TestTakeOfManyGroupsEnds(t *testing.T) {
	if _, _, e := zig.Take(read(strings.Repeat("1000", 10000))); e != api.ErrRange {
		t.Errorf("10000 groups that say that there are more: %d, want ErrRange", e)
	}
}

// P2: a list that has nothing in it may be nil.
func TestNil(t *testing.T) {
	if got, e := zig.Put(nil, 3); text(got) != "0110" || e != api.OK {
		t.Errorf("Put(nil, 3): %s %d", text(got), e)
	}
	if v, rest, e := zig.Take(nil); v != 0 || len(rest) != 0 || e != api.ErrTorn {
		t.Errorf("Take(nil): %d %s %d, want ErrTorn alone", v, text(rest), e)
	}
}

// roomy makes bits with spare room behind them, all of it true, and answers the whole of it too.
func roomy(l string, spare int) (part, whole []bool) {
	part = read(l)
	whole = slices.Concat(part, read(strings.Repeat("1", spare)))
	return whole[:len(part)], whole
}

// flip changes every bit of l and of the spare room behind it, so that shared memory is seen.
func flip(l []bool) {
	l = l[:cap(l)]
	for i := range l {
		l[i] = !l[i]
	}
}

// P2: what is handed in is only read, and so is the spare room behind it.
func TestPutOnlyReads(t *testing.T) {
	for _, c := range codes {
		part, whole := roomy("0101", 40)
		before := slices.Clone(whole)
		got, _ := zig.Put(part, c.v)
		flip(got)
		if !slices.Equal(whole, before) {
			t.Errorf("Put of %d: %s was handed in, is %s", c.v, text(before), text(whole))
		}
	}
}

// P2: the bits behind the number are new memory, and spare room isn't among them.
func TestTakeOnlyReads(t *testing.T) {
	for _, c := range codes {
		part, whole := roomy(c.bits+"0101", 40)
		before := slices.Clone(whole)
		_, rest, _ := zig.Take(part)
		if text(rest) != "0101" {
			t.Errorf("Take of %s with spare room: rest %s", c.bits, text(rest))
		}
		flip(rest)
		if !slices.Equal(whole, before) {
			t.Errorf("Take of %s: %s was handed in, is %s", c.bits, text(before), text(whole))
		}
	}
	part, _ := roomy("1000 000", 8)
	if _, _, e := zig.Take(part); e != api.ErrTorn {
		t.Errorf("Take of 7 bits with spare room: %d, want ErrTorn", e)
	}
}

// some answers the small numbers, those beside each power of 2, the outermost ones, and some between.
func some() []int {
	out := []int{}
	for v := range 3000 {
		out = append(out, v, api.MaxNumber-v)
	}
	for shift := range 22 {
		out = append(out, 1<<shift-1, 1<<shift, 1<<shift+1)
	}
	for v := 0; v <= api.MaxNumber; v += 997 {
		out = append(out, v)
	}
	for _, v := range slices.Clone(out) {
		out = append(out, -v)
	}
	return out
}

// P2.3: what is put is taken, whatever lies behind it.
func TestPutIsTaken(t *testing.T) {
	for _, v := range some() {
		l, e := zig.Put(nil, v)
		got, rest, f := zig.Take(append(l, true, false))
		if got != v || text(rest) != "10" || e != api.OK || f != api.OK {
			t.Fatalf("%d: put %s %d, taken %d %s %d", v, text(l), e, got, text(rest), f)
		}
	}
}

// P2.3: numbers that are put one behind the other are taken in that order.
func TestManyArePutAndTaken(t *testing.T) {
	l := []bool{}
	for _, c := range codes {
		var e api.Errno
		if l, e = zig.Put(l, c.v); e != api.OK {
			t.Fatalf("put %d: %d", c.v, e)
		}
	}
	for _, c := range codes {
		v, rest, e := zig.Take(l)
		if v != c.v || e != api.OK {
			t.Fatalf("taken %d %d, want %d", v, e, c.v)
		}
		l = rest
	}
	if len(l) != 0 {
		t.Errorf("%s is left", text(l))
	}
}

// bitsOf answers the width lowest bits of n as a list, the greatest one first.
func bitsOf(n, width int) []bool {
	out := make([]bool, width)
	for i := range width {
		out[i] = n>>(width-1-i)&1 == 1
	}
	return out
}

// P2.3: of all lists of up to 16 bits, each that is a number is the one that Put writes, and no other is that number.
func TestOneWayAlone(t *testing.T) {
	seen := map[int]string{}
	for width := range 17 {
		for n := range 1 << width {
			l := bitsOf(n, width)
			v, rest, e := zig.Take(l)
			if e != api.OK || len(rest) > 0 {
				continue
			}
			if was, twice := seen[v]; twice {
				t.Fatalf("%d is both %s and %s", v, was, text(l))
			}
			seen[v] = text(l)
			if put, f := zig.Put(nil, v); f != api.OK || !slices.Equal(put, l) {
				t.Fatalf("%d was taken of %s, is put as %s %d", v, text(l), text(put), f)
			}
		}
	}
	if len(seen) != 4096 {
		t.Errorf("%d numbers have up to 4 groups, want 4096", len(seen))
	}
}

// P2.3: at the longest codes, too, what is taken is put by the same bits.
func TestOneWayOfEightGroups(t *testing.T) {
	for last := range 16 {
		for next := range 8 {
			l := slices.Concat(read("1101 1000 1111 1001 1000 1100"), bitsOf(8+next, 4), bitsOf(last, 4))
			v, rest, e := zig.Take(l)
			if e != api.OK {
				continue
			}
			if put, f := zig.Put(nil, v); f != api.OK || len(rest) > 0 || !slices.Equal(put, l) {
				t.Errorf("%d was taken of %s, is put as %s %d", v, text(l), text(put), f)
			}
		}
	}
}

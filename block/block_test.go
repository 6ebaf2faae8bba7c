package block_test

import (
	"math"
	"slices"
	"testing"

	"rainbook/api"
	"rainbook/block"
	"rainbook/line"
)

// read makes bits of a text: '1' is true, '0' false; all else parts groups.
func read(text string) []bool {
	out := []bool{}
	for _, r := range text {
		if r == '0' || r == '1' {
			out = append(out, r == '1')
		}
	}
	return out
}

// from answers n points, one at each time from start on.
func from(start, n int) []api.Point {
	out := make([]api.Point, n)
	for i := range n {
		out[i] = api.Point{T: start + i, V: 3*i - start}
	}
	return out
}

// made answers the block of points that must have one.
func made(t *testing.T, l []api.Point) api.Block {
	t.Helper()
	b, e := block.Make(l)
	if e != api.OK {
		t.Fatalf("Make(%v): %d", l, e)
	}
	return b
}

// alike holds all fields against each other, without the program's own Same.
func alike(a, b api.Block) bool {
	return a.N == b.N && a.From == b.From && a.To == b.To && slices.Equal(a.Bits, b.Bits)
}

func isZero(b api.Block) bool { return alike(b, api.Block{}) }

// with answers b with one change; its Bits are its own.
func with(b api.Block, change func(*api.Block)) api.Block {
	b.Bits = slices.Clone(b.Bits)
	change(&b)
	return b
}

// handmade are blocks whose bits are written out by hand, and their points.
func handmade() []struct {
	l []api.Point
	b api.Block
} {
	return []struct {
		l []api.Point
		b api.Block
	}{
		{[]api.Point{{T: 0, V: 0}}, api.Block{N: 1, Bits: read("0000 0000")}},
		{[]api.Point{{T: 3, V: -2}}, api.Block{N: 1, From: 3, To: 3, Bits: read("0110 0011")}},
		{[]api.Point{{T: 0, V: 1}, {T: 1, V: 1}}, api.Block{N: 2, From: 0, To: 1, Bits: read("0000 0010 0010 0000")}},
		{[]api.Point{{T: 2, V: 3}, {T: 3, V: 0}}, api.Block{N: 2, From: 2, To: 3, Bits: read("0100 0110 0001 0101")}},
		{[]api.Point{{T: 10, V: 5}, {T: 20, V: 5}, {T: 30, V: 7}}, api.Block{N: 3, From: 10, To: 30, Bits: read("1100 0010 1010 0001 0000 0000 0000 0100")}},
	}
}

// fine are lists of points that blocks are made of, the outermost ones among them.
func fine() [][]api.Point {
	return [][]api.Point{
		{{T: 0, V: 0}},
		{{T: 7, V: -9}},
		{{T: 0, V: api.MaxValue}},
		{{T: api.MaxTime, V: -api.MaxValue}},
		{{T: 10, V: 5}, {T: 20, V: 5}, {T: 30, V: 7}},
		{{T: 7, V: 1}, {T: 8, V: 1}, {T: 100, V: 1}, {T: 101, V: 1}},
		{{T: 0, V: -api.MaxValue}, {T: api.MaxTime, V: api.MaxValue}},
		{{T: api.MaxTime - 1, V: 0}, {T: api.MaxTime, V: 0}},
		from(0, api.MaxPoints-1),
		from(500, api.MaxPoints),
		from(api.MaxTime+1-api.MaxPoints, api.MaxPoints),
	}
}

// P5.1: Make tells how many, the first and the last time, and the bits; Points answers the points.
func TestByHand(t *testing.T) {
	for _, c := range handmade() {
		if got, e := block.Make(c.l); !alike(got, c.b) || e != api.OK {
			t.Errorf("Make(%v): %v %d, want %v", c.l, got, e, c.b)
		}
		if got, e := block.Points(c.b); !slices.Equal(got, c.l) || e != api.OK {
			t.Errorf("Points(%v): %v %d, want %v", c.b, got, e, c.l)
		}
	}
}

// P5.1: of all fine points, the bits are those of chapter 3, and Points of Make is the points.
func TestPointsOfMake(t *testing.T) {
	for _, l := range fine() {
		b, e := block.Make(l)
		bits, _ := line.Pack(l)
		want := api.Block{N: len(l), From: l[0].T, To: l[len(l)-1].T, Bits: bits}
		if !alike(b, want) || e != api.OK {
			t.Errorf("Make(%v): %v %d, want %v", l, b, e, want)
		}
		if got, e := block.Points(b); !slices.Equal(got, l) || e != api.OK {
			t.Errorf("Points of Make(%v): %v %d", l, got, e)
		}
	}
}

// P5.1, P3: Make tells chapter 3's errors, and ErrForm of no points, with nothing else.
func TestMakeRefuses(t *testing.T) {
	for _, c := range []struct {
		l    []api.Point
		want api.Errno
	}{
		{nil, api.ErrForm},
		{[]api.Point{}, api.ErrForm},
		{from(0, api.MaxPoints+1), api.ErrMany},
		{make([]api.Point, 1000), api.ErrMany},
		{[]api.Point{{T: -1}}, api.ErrRange},
		{[]api.Point{{T: api.MaxTime + 1}}, api.ErrRange},
		{[]api.Point{{V: api.MaxValue + 1}}, api.ErrRange},
		{[]api.Point{{V: -api.MaxValue - 1}}, api.ErrRange},
		{[]api.Point{{T: math.MinInt, V: math.MaxInt}}, api.ErrRange},
		{[]api.Point{{T: 1}, {T: math.MaxInt, V: math.MinInt}}, api.ErrRange},
		{[]api.Point{{T: 3}, {T: 3}}, api.ErrLate},
		{[]api.Point{{T: 3}, {T: 9}, {T: 8}}, api.ErrLate},
		{[]api.Point{{T: 3}, {T: 2}, {T: -1}}, api.ErrLate},
		{[]api.Point{{T: -1}, {T: -2}}, api.ErrRange},
	} {
		if got, e := block.Make(c.l); !isZero(got) || e != c.want {
			t.Errorf("Make(%v): %v %d, want %d alone", c.l, got, e, c.want)
		}
	}
}

// wrong are blocks that may not be, and what is told of them.
func wrong() []struct {
	b    api.Block
	want api.Errno
} {
	return []struct {
		b    api.Block
		want api.Errno
	}{
		{api.Block{}, api.ErrForm},
		{api.Block{Bits: []bool{}}, api.ErrForm},
		{api.Block{From: 3, To: 5}, api.ErrForm},
		{api.Block{N: 1, From: 1, Bits: read("0000 0000")}, api.ErrForm},
		{api.Block{N: 1, To: 1, Bits: read("0000 0000")}, api.ErrForm},
		{api.Block{N: 1, From: -1, To: -1, Bits: read("0000 0000")}, api.ErrForm},
		{api.Block{N: 1, From: math.MinInt, To: math.MaxInt, Bits: read("0000 0000")}, api.ErrForm},
		// One point at 3, its ends told by half.
		{api.Block{N: 1, From: 3, Bits: read("0110 0000")}, api.ErrForm},
		{api.Block{N: 1, To: 3, Bits: read("0110 0000")}, api.ErrForm},
		// Points at 0 and 1, their ends told the other way round, and both as one.
		{api.Block{N: 2, From: 1, To: 0, Bits: read("0000 0000 0010 0000")}, api.ErrForm},
		{api.Block{N: 2, From: 0, To: 0, Bits: read("0000 0000 0010 0000")}, api.ErrForm},
		{api.Block{N: 2, From: 1, To: 1, Bits: read("0000 0000 0010 0000")}, api.ErrForm},

		{api.Block{N: -1}, api.ErrMany},
		{api.Block{N: api.MaxPoints + 1, Bits: read("0000 0000")}, api.ErrMany},
		{api.Block{N: math.MinInt, Bits: read("0000 0000")}, api.ErrMany},
		{api.Block{N: math.MaxInt, Bits: read("0000 0000")}, api.ErrMany},

		{api.Block{Bits: read("0")}, api.ErrTorn},
		{api.Block{Bits: read("0000 0000")}, api.ErrTorn},
		{api.Block{N: 1}, api.ErrTorn},
		{api.Block{N: 1, Bits: read("0000 000")}, api.ErrTorn},
		{api.Block{N: 1, Bits: read("0000 0000 0")}, api.ErrTorn},
		{api.Block{N: 1, Bits: read("0000 0000 0010 0000")}, api.ErrTorn},
		{api.Block{N: api.MaxPoints, Bits: read("0000 0000")}, api.ErrTorn},
		{api.Block{N: 1, Bits: read("1000 0000 0000")}, api.ErrForm},
		{api.Block{N: 1, Bits: read("0001 0000")}, api.ErrRange},
		{api.Block{N: 2, Bits: read("0000 0000 0000 0000")}, api.ErrLate},
		// What is wrong with the bits is told ahead of wrong ends.
		{api.Block{N: 1, From: 9, Bits: read("0000 0000 0")}, api.ErrTorn},
		{api.Block{N: 1, To: 9, Bits: read("0001 0000")}, api.ErrRange},
		{api.Block{N: -1, From: 9, To: 9}, api.ErrMany},
		{api.Block{N: 2, From: 9, To: 9, Bits: read("0000 0000 0000 0000")}, api.ErrLate},
	}
}

// P5.1, P3: Points tells chapter 3's errors ahead of its own, with nothing else.
func TestPointsRefuses(t *testing.T) {
	for _, c := range wrong() {
		if got, e := block.Points(c.b); len(got) != 0 || e != c.want {
			t.Errorf("Points(%v): %v %d, want %d alone", c.b, got, e, c.want)
		}
	}
}

// P5.1: of a fine block, no end may be moved, however little.
func TestPointsRefusesMovedEnds(t *testing.T) {
	for _, l := range fine() {
		b := made(t, l)
		for _, by := range []int{1, -1, 1000, math.MinInt} {
			for _, moved := range []api.Block{
				with(b, func(b *api.Block) { b.From += by }),
				with(b, func(b *api.Block) { b.To += by }),
				with(b, func(b *api.Block) { b.From += by; b.To += by }),
				with(b, func(b *api.Block) { b.From += by; b.To -= by }),
			} {
				if got, e := block.Points(moved); len(got) != 0 || e != api.ErrForm {
					t.Errorf("Points(%v) of points %v: %v %d, want ErrForm alone", moved, l, got, e)
				}
			}
		}
	}
}

// P5.1: Same asks for each field, of blocks that may not be, too; a list of nothing is alike, nil or not.
func TestSame(t *testing.T) {
	plain := api.Block{N: 2, From: 3, To: 9, Bits: read("0101")}
	for _, c := range []struct {
		what string
		a, b api.Block
		want bool
	}{
		{"zero", api.Block{}, api.Block{}, true},
		{"itself", plain, plain, true},
		{"a copy", plain, with(plain, func(*api.Block) {}), true},
		{"N", plain, with(plain, func(b *api.Block) { b.N++ }), false},
		{"From", plain, with(plain, func(b *api.Block) { b.From++ }), false},
		{"To", plain, with(plain, func(b *api.Block) { b.To-- }), false},
		{"ends the other way round", plain, with(plain, func(b *api.Block) { b.From, b.To = b.To, b.From }), false},
		{"the first bit", plain, with(plain, func(b *api.Block) { b.Bits[0] = true }), false},
		{"the last bit", plain, with(plain, func(b *api.Block) { b.Bits[3] = false }), false},
		{"a bit more", plain, with(plain, func(b *api.Block) { b.Bits = append(b.Bits, false) }), false},
		{"a bit less", plain, with(plain, func(b *api.Block) { b.Bits = b.Bits[:3] }), false},
		{"no bits", plain, with(plain, func(b *api.Block) { b.Bits = nil }), false},
		{"nil and empty", api.Block{N: 1}, api.Block{N: 1, Bits: []bool{}}, true},
		{"nil and one", api.Block{}, api.Block{Bits: []bool{false}}, false},
		{"spare room", plain, with(plain, func(b *api.Block) { b.Bits = append(b.Bits, true)[:4] }), true},
		{"odd ones alike", api.Block{N: -1, From: math.MinInt, To: math.MaxInt}, api.Block{N: -1, From: math.MinInt, To: math.MaxInt}, true},
		{"odd ones", api.Block{N: math.MinInt}, api.Block{N: math.MaxInt}, false},
	} {
		if got := block.Same(c.a, c.b); got != c.want {
			t.Errorf("%s: %t, want %t", c.what, got, c.want)
		}
		if got := block.Same(c.b, c.a); got != c.want {
			t.Errorf("%s, the other way: %t, want %t", c.what, got, c.want)
		}
	}
}

// P5.2: wherever a list is parted, the blocks of the parts merged are the block of the whole.
func TestMergeOfParts(t *testing.T) {
	for _, l := range fine() {
		whole := made(t, l)
		for i := 1; i < len(l); i++ {
			got, e := block.Merge(made(t, l[:i]), made(t, l[i:]))
			if !alike(got, whole) || !block.Same(got, whole) || e != api.OK {
				t.Errorf("%v parted at %d: %v %d, want %v", l, i, got, e, whole)
			}
		}
	}
}

// P5.2: the bits of the merged block are written out by hand: the points of b are told from where a ends.
func TestMergeBits(t *testing.T) {
	a := api.Block{N: 1, From: 10, To: 10, Bits: read("1100 0010 1010 0001")}
	b := api.Block{N: 2, From: 20, To: 30, Bits: read("1000 0101 1010 0001 1011 0010 0100")}
	want := api.Block{N: 3, From: 10, To: 30, Bits: read("1100 0010 1010 0001 0000 0000 0000 0100")}
	if got, e := block.Merge(a, b); !alike(got, want) || e != api.OK {
		t.Errorf("Merge: %v %d, want %v", got, e, want)
	}
}

// P5.2: Merge tells Make's error of both, with nothing else.
func TestMergeRefusesTogether(t *testing.T) {
	for _, c := range []struct {
		what string
		a, b []api.Point
		want api.Errno
	}{
		{"as many as may be", from(0, 30), from(30, api.MaxPoints-30), api.OK},
		{"as many, one and all others", from(0, 1), from(1, api.MaxPoints-1), api.OK},
		{"one too many", from(0, 30), from(30, api.MaxPoints-29), api.ErrMany},
		{"one behind all", from(0, api.MaxPoints), from(900, 1), api.ErrMany},
		{"twice all", from(0, api.MaxPoints), from(900, api.MaxPoints), api.ErrMany},
		{"too many is told ahead of late", from(900, api.MaxPoints), from(0, 1), api.ErrMany},
		{"the wrong way round", from(30, 5), from(0, 5), api.ErrLate},
		{"with itself", from(3, 1), from(3, 1), api.ErrLate},
		{"from the last time on", from(0, 5), from(4, 5), api.ErrLate},
		{"from behind the last time on", from(0, 5), from(5, 5), api.OK},
		{"one within the other", []api.Point{{T: 0}, {T: 100}}, from(40, 5), api.ErrLate},
	} {
		got, e := block.Merge(made(t, c.a), made(t, c.b))
		if e != c.want || (e != api.OK && !isZero(got)) || (e == api.OK && got.N != len(c.a)+len(c.b)) {
			t.Errorf("%s: %v %d, want %d", c.what, got, e, c.want)
		}
	}
}

// P5.2, P3: Merge tells Points' error of a, and only then that of b, ahead of what is wrong with both together.
func TestMergeRefusesBlocks(t *testing.T) {
	full := made(t, from(500, api.MaxPoints))
	for _, c := range wrong() {
		for _, other := range []api.Block{made(t, from(0, 1)), full} {
			if got, e := block.Merge(c.b, other); !isZero(got) || e != c.want {
				t.Errorf("Merge(%v, fine): %v %d, want %d alone", c.b, got, e, c.want)
			}
			if got, e := block.Merge(other, c.b); !isZero(got) || e != c.want {
				t.Errorf("Merge(fine, %v): %v %d, want %d alone", c.b, got, e, c.want)
			}
		}
		for _, d := range wrong() {
			if got, e := block.Merge(c.b, d.b); !isZero(got) || e != c.want {
				t.Errorf("Merge(%v, %v): %v %d, want %d alone", c.b, d.b, got, e, c.want)
			}
		}
	}
}

// scramble changes everything of l and of the spare room behind it, so that shared memory is seen.
func scramble[E any](l []E, change func(E) E) {
	l = l[:cap(l)]
	for i := range l {
		l[i] = change(l[i])
	}
}

func flip(bit bool) bool { return !bit }

func move(p api.Point) api.Point { return api.Point{T: p.T + 1, V: p.V - 1} }

// roomy answers b with bits behind its Bits that aren't its own, and all of these bits.
func roomy(b api.Block) (api.Block, []bool) {
	whole := append(slices.Clone(b.Bits), read("0000 0010 1111 0000")...)
	b.Bits = whole[:len(b.Bits)]
	return b, whole
}

// P2: points that are handed in are only read, and so is the spare room behind them.
func TestMakeOnlyReads(t *testing.T) {
	for _, l := range fine() {
		whole := append(slices.Clone(l), from(0, 50)...)
		before := slices.Clone(whole)
		want := made(t, l)
		got := made(t, whole[:len(l)])
		if !alike(got, want) {
			t.Errorf("Make(%v) with spare room: %v, want %v", l, got, want)
		}
		scramble(got.Bits, flip)
		if !slices.Equal(whole, before) || !alike(made(t, l), want) {
			t.Errorf("Make: %v was handed in, is %v", before, whole)
		}
	}
}

// P2: bits that are handed in are only read, and so is the spare room behind them.
func TestPointsOnlyReads(t *testing.T) {
	for _, l := range fine() {
		b, whole := roomy(made(t, l))
		before := slices.Clone(whole)
		got, e := block.Points(b)
		if !slices.Equal(got, l) || e != api.OK {
			t.Errorf("Points with spare room: %v %d, want %v", got, e, l)
		}
		scramble(got, move)
		if again, _ := block.Points(b); !slices.Equal(again, l) {
			t.Errorf("Points: %v, then %v", l, again)
		}
		if !slices.Equal(whole, before) {
			t.Errorf("Points: %v was handed in, is %v", before, whole)
		}
	}
}

// P2: Merge reads both blocks only, and answers bits of its own, of two that share theirs, too.
func TestMergeOnlyReads(t *testing.T) {
	l := from(3, 9)
	a, first := roomy(made(t, l[:4]))
	b, second := roomy(made(t, l[4:]))
	firstBefore, secondBefore := slices.Clone(first), slices.Clone(second)
	want := made(t, l)
	got, e := block.Merge(a, b)
	if !alike(got, want) || e != api.OK || !block.Same(got, want) {
		t.Errorf("Merge with spare room: %v %d, want %v", got, e, want)
	}
	scramble(got.Bits, flip)
	if again, _ := block.Merge(a, b); !alike(again, want) {
		t.Errorf("Merge: %v, then %v", want, again)
	}
	if !slices.Equal(first, firstBefore) || !slices.Equal(second, secondBefore) {
		t.Errorf("Merge: %v, %v were handed in, are %v, %v", firstBefore, secondBefore, first, second)
	}
	if _, e := block.Merge(a, a); e != api.ErrLate || !slices.Equal(first, firstBefore) {
		t.Errorf("Merge with itself: %d, want ErrLate; %v was handed in, is %v", e, firstBefore, first)
	}
}

// small calls f with all lists of up to n points at times below 6, of values from -1 to 1.
func small(n int, l []api.Point, f func([]api.Point)) {
	f(l)
	if len(l) == n {
		return
	}
	start := 0
	if len(l) > 0 {
		start = l[len(l)-1].T + 1
	}
	for at := start; at < 6; at++ {
		for v := -1; v <= 1; v++ {
			small(n, append(slices.Clone(l), api.Point{T: at, V: v}), f)
		}
	}
}

// P5.1, P5.2: of every two small lists, the merged block is that of one behind the other, or there is Make's error of it.
func TestMergeOfAllSmall(t *testing.T) {
	var lists [][]api.Point
	small(2, nil, func(l []api.Point) {
		if len(l) > 0 {
			lists = append(lists, l)
		}
	})
	for _, l := range lists {
		for _, m := range lists {
			want, f := block.Make(slices.Concat(l, m))
			got, e := block.Merge(made(t, l), made(t, m))
			if e != f || !alike(got, want) {
				t.Fatalf("Merge of %v, %v: %v %d, want %v %d", l, m, got, e, want, f)
			}
			if late := l[len(l)-1].T >= m[0].T; late != (e == api.ErrLate) {
				t.Fatalf("Merge of %v, %v: %d", l, m, e)
			}
		}
	}
}

// P5.1: of all short lists of bits and small ends, those that are blocks are the ones that Make writes.
func TestMakeOfPoints(t *testing.T) {
	seen := 0
	for width := range 13 {
		for number := range 1 << width {
			bits := make([]bool, width)
			for i := range bits {
				bits[i] = number>>i&1 == 1
			}
			for at := range 8 {
				b := api.Block{N: 1, From: at, To: at, Bits: bits}
				l, e := block.Points(b)
				if e != api.OK {
					continue
				}
				seen++
				if got := made(t, l); !alike(got, b) {
					t.Fatalf("%v are %v, made to %v", b, l, got)
				}
			}
		}
	}
	if seen == 0 {
		t.Error("no bits were a block")
	}
}

package query_test

import (
	"fmt"
	"math"
	"reflect"
	"slices"
	"testing"

	"rainbook/api"
	"rainbook/block"
	"rainbook/query"
	"rainbook/shelf"
	"rainbook/sum"
)

// made answers the block of points that must have one.
func made(t *testing.T, l []api.Point) api.Block {
	t.Helper()
	b, e := block.Make(l)
	if e != api.OK {
		t.Fatalf("Make(%v): %d", l, e)
	}
	return b
}

// row answers a row of one block of each list but the last one, which is its Head.
func row(t *testing.T, l ...[]api.Point) api.Row {
	t.Helper()
	var out api.Row
	for _, part := range l[:len(l)-1] {
		out.Blocks = append(out.Blocks, made(t, part))
	}
	out.Head = slices.Clone(l[len(l)-1])
	return out
}

// with answers a shelf of nothing but the rows that are told, from series 0 on.
func with(rows ...api.Row) api.Shelf {
	out := api.Shelf{Rows: make([]api.Row, api.MaxSeries)}
	copy(out.Rows, rows)
	return out
}

// deep answers s in memory of its own, with the spare room behind its lists as parts of them, so that a change there is seen.
func deep(s api.Shelf) api.Shelf {
	out := api.Shelf{Rows: slices.Clone(s.Rows[:cap(s.Rows)])}
	for i := range out.Rows {
		r := &out.Rows[i]
		r.Blocks, r.Head = slices.Clone(r.Blocks[:cap(r.Blocks)]), slices.Clone(r.Head[:cap(r.Head)])
		for j := range r.Blocks {
			b := &r.Blocks[j]
			b.Bits = slices.Clone(b.Bits[:cap(b.Bits)])
		}
	}
	return out
}

// alike holds all fields against each other; a list of nothing is printed alike, nil or not.
func alike(a, b any) bool { return fmt.Sprint(a) == fmt.Sprint(b) }

// The points of plain, by where they are.
var (
	first  = []api.Point{{T: 10, V: 5}, {T: 12, V: -3}}
	second = []api.Point{{T: 20, V: 8}}
	head   = []api.Point{{T: 30, V: 0}, {T: 35, V: 7}}
	whole  = slices.Concat(first, second, head)
	ends   = []api.Point{{T: 0, V: api.MaxValue}, {T: api.MaxTime, V: -api.MaxValue}}
)

// plain answers a shelf: series 0 has two blocks and a head, 1 a block alone with the outermost times, 2 nothing, 3 a head alone.
func plain(t *testing.T) api.Shelf {
	t.Helper()
	return with(row(t, first, second, head), row(t, ends, nil), api.Row{}, row(t, first))
}

// P7.1: from is in, to isn't, whatever they are, and wherever the blocks end.
func TestRange(t *testing.T) {
	s := plain(t)
	for _, c := range []struct {
		series, from, to int
		want             []api.Point
	}{
		{0, 10, 36, whole},
		{0, 0, api.MaxTime + 1, whole},
		{0, math.MinInt, math.MaxInt, whole},
		{0, -5, 36, whole},
		{0, 10, 35, whole[:4]},
		{0, 11, 36, whole[1:]},
		{0, 10, 12, whole[:1]},
		{0, 10, 13, whole[:2]},
		{0, 12, 20, whole[1:2]},
		{0, 12, 21, whole[1:3]},
		{0, 13, 20, nil},
		{0, 20, 21, second},
		{0, 20, 20, nil},
		{0, 21, 30, nil},
		{0, 21, 31, head[:1]},
		{0, 35, 36, head[1:]},
		{0, 36, math.MaxInt, nil},
		{0, math.MinInt, 10, nil},
		{0, math.MinInt, 11, first[:1]},
		{0, 30, 10, nil},
		{0, math.MaxInt, math.MinInt, nil},
		{1, 0, api.MaxTime, ends[:1]},
		{1, 0, api.MaxTime + 1, ends},
		{1, 1, api.MaxTime + 1, ends[1:]},
		{1, 1, api.MaxTime, nil},
		{1, 0, 0, nil},
		{1, -1, 1, ends[:1]},
		{2, 0, api.MaxTime + 1, nil},
		{3, 0, 12, first[:1]},
		{3, 0, 13, first},
	} {
		l, e := query.Range(s, c.series, c.from, c.to)
		if e != api.OK || !slices.Equal(l, c.want) {
			t.Errorf("Range of %d from %d to %d: %v %d, want %v", c.series, c.from, c.to, l, e, c.want)
		}
	}
}

// P7.1: the last one, of the head, or of the last block if the head has none; zero and false without an error if there is none.
func TestLast(t *testing.T) {
	s := plain(t)
	for series, want := range []api.Point{{T: 35, V: 7}, {T: api.MaxTime, V: -api.MaxValue}, {}, {T: 12, V: -3}} {
		if p, ok, e := query.Last(s, series); p != want || ok != (series != 2) || e != api.OK {
			t.Errorf("Last of %d: %v %t %d, want %v", series, p, ok, e, want)
		}
	}
	// A point that is zero is there all the same.
	if p, ok, e := query.Last(with(row(t, []api.Point{{}})), 0); p != (api.Point{}) || !ok || e != api.OK {
		t.Errorf("Last of a zero point: %v %t %d, want zero, true", p, ok, e)
	}
}

func bucket(start, n, least, greatest, total int) api.Bucket {
	return api.Bucket{Start: start, S: api.Sum{N: n, Min: least, Max: greatest, Total: total}}
}

// P7.2: a bucket of each piece that has points, in order, each from from on by so many widths; the last one may be cut.
func TestBuckets(t *testing.T) {
	s := plain(t)
	for _, c := range []struct {
		what                    string
		series, from, to, width int
		want                    []api.Bucket
	}{
		{"all in one", 0, 0, 100, 100, []api.Bucket{bucket(0, 5, -3, 8, 17)}},
		{"as wide as may be", 0, 0, api.MaxTime + 1, api.MaxTime + 1, []api.Bucket{bucket(0, 5, -3, 8, 17)}},
		{"wider than the range", 0, 11, 31, 500, []api.Bucket{bucket(11, 3, -3, 8, 5)}},
		{"across blocks", 0, 0, 40, 15, []api.Bucket{
			bucket(0, 2, -3, 5, 2), bucket(15, 1, 8, 8, 8), bucket(30, 2, 0, 7, 7)}},
		{"ends that are points", 0, 10, 36, 10, []api.Bucket{
			bucket(10, 2, -3, 5, 2), bucket(20, 1, 8, 8, 8), bucket(30, 2, 0, 7, 7)}},
		{"the last one cut", 0, 10, 35, 10, []api.Bucket{
			bucket(10, 2, -3, 5, 2), bucket(20, 1, 8, 8, 8), bucket(30, 1, 0, 0, 0)}},
		{"from the middle of a piece", 0, 12, 36, 9, []api.Bucket{
			bucket(12, 2, -3, 8, 5), bucket(30, 2, 0, 7, 7)}},
		{"one by one", 0, 10, 36, 1, []api.Bucket{
			bucket(10, 1, 5, 5, 5), bucket(12, 1, -3, -3, -3), bucket(20, 1, 8, 8, 8),
			bucket(30, 1, 0, 0, 0), bucket(35, 1, 7, 7, 7)}},
		{"no points between", 0, 13, 20, 2, nil},
		{"no times", 0, 10, 10, 1, nil},
		{"no times at the start", 1, 0, 0, 1, nil},
		{"no times at the end", 1, api.MaxTime + 1, api.MaxTime + 1, 1, nil},
		{"no points at all", 2, 0, api.MaxTime + 1, 501, nil},
		{"both ends of time", 1, 0, api.MaxTime + 1, 501, []api.Bucket{
			bucket(0, 1, api.MaxValue, api.MaxValue, api.MaxValue),
			bucket(199*501, 1, -api.MaxValue, -api.MaxValue, -api.MaxValue)}},
		{"the last time alone", 1, api.MaxTime, api.MaxTime + 1, 1, []api.Bucket{
			bucket(api.MaxTime, 1, -api.MaxValue, -api.MaxValue, -api.MaxValue)}},
		{"ahead of the last time", 1, 1, api.MaxTime, api.MaxTime, nil},
	} {
		l, e := query.Buckets(s, c.series, c.from, c.to, c.width)
		if e != api.OK || !slices.Equal(l, c.want) {
			t.Errorf("%s: %v %d, want %v", c.what, l, e, c.want)
		}
	}
}

// P7.2, P3: which times and widths may not be, and which of the errors is told; with one there are no buckets.
func TestBucketsRefuses(t *testing.T) {
	s := plain(t)
	const end = api.MaxTime + 1
	for _, c := range []struct {
		what                    string
		series, from, to, width int
		want                    api.Errno
	}{
		{"from below 0", 0, -1, 10, 1, api.ErrRange},
		{"from far below 0", 0, math.MinInt, 10, 1, api.ErrRange},
		{"from above to", 0, 11, 10, 1, api.ErrRange},
		{"from far above to", 0, math.MaxInt, 10, 1, api.ErrRange},
		{"to below 0", 0, 0, -1, 1, api.ErrRange},
		{"both below 0", 0, -2, -1, 1, api.ErrRange},
		{"to as great as may be", 0, 0, end, end, api.OK},
		{"to above all", 0, 0, end + 1, end, api.ErrRange},
		{"to far above all", 0, 0, math.MaxInt, end, api.ErrRange},
		{"both above all", 0, end + 1, end + 1, 1, api.ErrRange},
		{"all there is", 0, math.MinInt, math.MaxInt, 1, api.ErrRange},
		{"the wrong way round", 0, math.MaxInt, math.MinInt, 1, api.ErrRange},
		{"width 0", 0, 0, 10, 0, api.ErrRange},
		{"width 0 of no times", 0, 10, 10, 0, api.ErrRange},
		{"width 0 of no points", 2, 0, 10, 0, api.ErrRange},
		{"width below 0", 0, 0, 10, -1, api.ErrRange},
		{"width far below 0", 0, 0, 10, math.MinInt, api.ErrRange},
		{"width as small as may be", 0, 0, 10, 1, api.OK},
		{"width as great as may be", 0, 0, 10, end, api.OK},
		{"width above all", 0, 0, 10, end + 1, api.ErrRange},
		{"width far above all", 0, 0, 10, math.MaxInt, api.ErrRange},
		{"as many as may be", 0, 0, api.MaxBuckets, 1, api.OK},
		{"one too many", 0, 0, api.MaxBuckets + 1, 1, api.ErrMany},
		{"as many, from later on", 0, 77, 77 + api.MaxBuckets, 1, api.OK},
		{"one too many, from later on", 0, 77, 78 + api.MaxBuckets, 1, api.ErrMany},
		{"as many of three", 0, 0, 3 * api.MaxBuckets, 3, api.OK},
		{"as many of three, the last one cut by one", 0, 0, 3*api.MaxBuckets - 1, 3, api.OK},
		{"as many of three, the last one cut by two", 0, 0, 3*api.MaxBuckets - 2, 3, api.OK},
		{"one too many of three, cut by two", 0, 0, 3*api.MaxBuckets + 1, 3, api.ErrMany},
		{"one too many of three", 0, 0, 3*api.MaxBuckets + 3, 3, api.ErrMany},
		{"all times, as many", 0, 0, end, 501, api.OK},
		{"all times, one too many", 0, 0, end, 500, api.ErrMany},
		{"all times but the last, as many", 0, 0, end - 1, 500, api.OK},
		{"all times, one by one", 0, 0, end, 1, api.ErrMany},
		{"too many without points", 2, 0, end, 1, api.ErrMany},
		{"too many ahead of the points", 1, 1, end - 1, 1, api.ErrMany},
		{"too many, and to above all", 0, 0, end + 1, 1, api.ErrRange},
		{"too many, and from below 0", 0, -1, end, 1, api.ErrRange},
		{"no such series", api.MaxSeries, 0, 10, 1, api.ErrWho},
		{"no such series, and from below 0", -1, -1, 10, 1, api.ErrWho},
		{"no such series, and width 0", api.MaxSeries, 0, 10, 0, api.ErrWho},
		{"no such series, and too many", math.MaxInt, 0, end, 1, api.ErrWho},
	} {
		l, e := query.Buckets(s, c.series, c.from, c.to, c.width)
		if e != c.want || e != api.OK && l != nil {
			t.Errorf("%s: %v %d, want %d", c.what, l, e, c.want)
		}
	}
}

// answer is what any of the calls answers: an error, and all else.
type answer struct {
	x any
	e api.Errno
}

func got[T any](x T, e api.Errno) answer { return answer{x, e} }

// point is what Last answers beside its error.
type point struct {
	p  api.Point
	is bool
}

func gotPoint(p api.Point, is bool, e api.Errno) answer { return answer{point{p, is}, e} }

// mustRefuse asks all calls, with times that may be and times that may not; each must tell that error, and nothing else.
func mustRefuse(t *testing.T, what string, s api.Shelf, series int, want api.Errno) {
	t.Helper()
	for name, a := range map[string]answer{
		"Range":              got(query.Range(s, series, 0, 50)),
		"Range of no times":  got(query.Range(s, series, 50, -1)),
		"Last":               gotPoint(query.Last(s, series)),
		"Buckets":            got(query.Buckets(s, series, 0, 50, 5)),
		"Buckets of width 0": got(query.Buckets(s, series, 0, 50, 0)),
		"too many Buckets":   got(query.Buckets(s, series, 0, 5000, 1)),
	} {
		if a.e != want || !reflect.ValueOf(a.x).IsZero() {
			t.Errorf("%s: %s of %d: %v, want %d alone", what, name, series, a, want)
		}
	}
}

// P7.1, P7.2, P3: the shelf's error first, whichever row is wrong, then that there is no such series.
func TestWrongShelves(t *testing.T) {
	bad := func(change func(*api.Block)) api.Row {
		r := row(t, first, head)
		change(&r.Blocks[0])
		return r
	}
	for what, w := range map[string]struct {
		r    api.Row
		want api.Errno
	}{
		"a zero block":     {api.Row{Blocks: make([]api.Block, 1)}, api.ErrForm},
		"too many blocks":  {api.Row{Blocks: make([]api.Block, api.MaxBlocks+1)}, api.ErrMany},
		"a moved end":      {bad(func(b *api.Block) { b.To++ }), api.ErrForm},
		"a bit too many":   {bad(func(b *api.Block) { b.Bits = append(b.Bits, false) }), api.ErrTorn},
		"N below 0":        {bad(func(b *api.Block) { b.N = -1 }), api.ErrMany},
		"a late head":      {row(t, second, first), api.ErrLate},
		"a T below 0":      {row(t, []api.Point{{T: -1}}), api.ErrRange},
		"a V above all":    {row(t, []api.Point{{V: api.MaxValue + 1}}), api.ErrRange},
		"too many points":  {api.Row{Head: make([]api.Point, api.MaxPoints+1)}, api.ErrMany},
		"points that stay": {api.Row{Head: make([]api.Point, 2)}, api.ErrLate},
	} {
		for at := range api.MaxSeries {
			s := plain(t)
			s.Rows[at] = w.r
			for _, series := range []int{0, at, -1, api.MaxSeries} {
				mustRefuse(t, fmt.Sprint(what, ", row ", at), s, series, w.want)
			}
		}
	}
	for _, rows := range []int{0, api.MaxSeries - 1, api.MaxSeries + 1} {
		for _, series := range []int{0, rows - 1, rows, -1} {
			mustRefuse(t, fmt.Sprint(rows, " rows"), api.Shelf{Rows: make([]api.Row, rows)}, series, api.ErrForm)
		}
	}
	for _, series := range []int{-1, api.MaxSeries, math.MinInt, math.MaxInt} {
		mustRefuse(t, "plain", plain(t), series, api.ErrWho)
		mustRefuse(t, "nothing", with(), series, api.ErrWho)
	}
}

// roomy answers a shelf of one row, with something behind each of its lists that isn't its own.
func roomy(t *testing.T) api.Shelf {
	t.Helper()
	r := row(t, first, second, head)
	for i := range r.Blocks {
		b := &r.Blocks[i]
		b.Bits = append(b.Bits, true, false, true)[:len(b.Bits)]
	}
	r.Blocks = append(r.Blocks, api.Block{N: 7})[:len(r.Blocks)]
	r.Head = append(r.Head, api.Point{T: 36, V: 9}, api.Point{T: 37, V: 9})[:len(r.Head)]
	rows := append(with(r).Rows, api.Row{Head: whole})[:api.MaxSeries]
	// A row without blocks, too, whose points are its head alone.
	rows[1] = api.Row{Head: append(slices.Clone(whole), api.Point{T: 99, V: 9})[:len(whole)]}
	return api.Shelf{Rows: rows}
}

// P2: the shelf is only read, with its spare room, and no answer hangs on it, or it on an answer.
func TestOnlyReads(t *testing.T) {
	for series := range 2 {
		s := roomy(t)
		before := deep(s)
		for _, times := range [][2]int{{0, 50}, {11, 31}, {36, 90}, {13, 14}, {50, 0}} {
			l, e := query.Range(s, series, times[0], times[1])
			if e != api.OK {
				t.Fatalf("Range of %v: %d", times, e)
			}
			for i := range l[:cap(l)] {
				l[:cap(l)][i] = api.Point{T: -7, V: -7}
			}
			if !alike(deep(s), before) {
				t.Fatalf("Range of %v: was %v, is %v", times, before, deep(s))
			}
		}
		query.Last(s, series)
		l, e := query.Buckets(s, series, 0, 50, 12)
		want := slices.Clone(l)
		if e != api.OK || !alike(deep(s), before) {
			t.Fatalf("Buckets: %d; was %v, is %v", e, before, deep(s))
		}
		points, _ := query.Range(s, series, 11, 31)
		for i := range s.Rows {
			clear(s.Rows[i].Head[:cap(s.Rows[i].Head)])
			clear(s.Rows[i].Blocks)
		}
		if !slices.Equal(l, want) || !slices.Equal(points, whole[1:4]) {
			t.Errorf("answers hang on the shelf: %v, was %v; %v, was %v", l, want, points, whole[1:4])
		}
	}
}

// dice answers numbers that look thrown and are the same at each run.
func dice(seed uint32) func(n int) int {
	return func(n int) int {
		seed = seed*1664525 + 1013904223
		return int(seed>>8) % n
	}
}

// thrown answers up to as many points as may be, by time, below some 2000.
func thrown(throw func(int) int) []api.Point {
	at := -1
	return slices.Collect(func(yield func(api.Point) bool) {
		for range throw(api.MaxPoints + 1) {
			at += 1 + throw(1+throw(90))
			if !yield(api.Point{T: at, V: throw(2*api.MaxValue+1) - api.MaxValue}) {
				return
			}
		}
	})
}

// cut answers l as a row whose first points are in blocks of thrown sizes.
func cut(t *testing.T, throw func(int) int, l []api.Point) api.Row {
	t.Helper()
	var parts [][]api.Point
	for range throw(api.MaxBlocks + 1) {
		if len(l) == 0 {
			break
		}
		n := 1 + throw(min(len(l), 9))
		parts, l = append(parts, l[:n]), l[n:]
	}
	return row(t, append(parts, l)...)
}

// slowly answers the buckets by going through all pieces, with or without points, and asking each point of each of them.
func slowly(l []api.Point, from, to, width int) []api.Bucket {
	var out []api.Bucket
	for start := from; start < to; start += width {
		var in []api.Point
		for _, p := range l {
			if p.T >= start && p.T < start+width && p.T < to {
				in = append(in, p)
			}
		}
		if len(in) > 0 {
			out = append(out, api.Bucket{Start: start, S: sum.Of(in)})
		}
	}
	return out
}

// pieces answers how many pieces there are, with or without points.
func pieces(from, to, width int) int {
	n := 0
	for start := from; start < to; start += width {
		n++
	}
	return n
}

// joined answers the sum of all buckets together.
func joined(l []api.Bucket) api.Sum {
	var out api.Sum
	for _, b := range l {
		out = sum.Join(out, b.S)
	}
	return out
}

// P7.3: however a range is cut, its buckets are those that a slow walk finds, and together the sum of the whole range.
func TestBucketsTogetherAreTheRange(t *testing.T) {
	asked, full := 0, 0
	for seed := range 3000 {
		throw := dice(uint32(seed))
		l := thrown(throw)
		s := with(api.Row{}, cut(t, throw, l))
		from := throw(500)
		to, width := from+throw(1500), 1+throw(1+throw(300))
		points, e := query.Range(s, 1, from, to)
		if e != api.OK {
			t.Fatalf("seed %d: Range: %d", seed, e)
		}
		buckets, e := query.Buckets(s, 1, from, to, width)
		if n := pieces(from, to, width); n > api.MaxBuckets {
			if e != api.ErrMany || buckets != nil {
				t.Fatalf("seed %d: %d pieces: %v %d, want ErrMany alone", seed, n, buckets, e)
			}
			continue
		}
		if e != api.OK {
			t.Fatalf("seed %d: from %d to %d by %d: error %d", seed, from, to, width, e)
		}
		asked++
		full += min(len(points), 1)
		if want := slowly(l, from, to, width); !slices.Equal(buckets, want) {
			t.Fatalf("seed %d: from %d to %d by %d: %v, want %v", seed, from, to, width, buckets, want)
		}
		if whole, want := joined(buckets), sum.Of(points); whole != want {
			t.Fatalf("seed %d: from %d to %d by %d: together %v, want %v", seed, from, to, width, whole, want)
		}
	}
	if asked < 1000 || full < 1000 {
		t.Errorf("only %d were asked, %d of them with points", asked, full)
	}
}

// P7.1, P7.2: sealing and merging change no answer.
func TestSealAndMergeChangeNoAnswer(t *testing.T) {
	answers := func(s api.Shelf) string {
		l, e := query.Range(s, 3, 100, 900)
		b, f := query.Buckets(s, 3, 100, 1999, 10)
		p, ok, g := query.Last(s, 3)
		return fmt.Sprint(l, e, b, f, p, ok, g)
	}
	sealed, merged := 0, 0
	for seed := range 200 {
		throw := dice(uint32(seed))
		s := with(api.Row{}, api.Row{}, api.Row{}, api.Row{Head: thrown(throw)})
		want := answers(s)
		for range 12 {
			did := &sealed
			x, e := shelf.Seal(s, 3, 1+throw(9))
			if throw(3) == 0 {
				did = &merged
				x, e = shelf.Merge(s, 3, throw(4))
			}
			if e != api.OK {
				continue
			}
			*did++
			s = x
			if now := answers(s); now != want {
				t.Fatalf("seed %d: %s, was %s", seed, now, want)
			}
		}
	}
	if sealed < 100 || merged < 100 {
		t.Errorf("only %d were sealed, %d merged", sealed, merged)
	}
}

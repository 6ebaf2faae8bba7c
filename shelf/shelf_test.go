package shelf_test

import (
	"fmt"
	"math"
	"reflect"
	"slices"
	"testing"

	"rainbook/api"
	"rainbook/block"
	"rainbook/shelf"
)

// from answers n points, one at each time from start on.
func from(start, n int) []api.Point {
	out := make([]api.Point, n)
	for i := range n {
		out[i] = api.Point{T: start + i, V: 3*i - start}
	}
	return out
}

// made answers the block of points that must have one.
func made(t *testing.T, l []api.Point) api.Block {
	t.Helper()
	b, e := block.Make(l)
	if e != api.OK {
		t.Fatalf("Make(%v): %d", l, e)
	}
	return b
}

// row answers a row of one block of each list but the last one, which is its Head.
func row(t *testing.T, l ...[]api.Point) api.Row {
	t.Helper()
	var out api.Row
	for _, part := range l[:len(l)-1] {
		out.Blocks = append(out.Blocks, made(t, part))
	}
	out.Head = slices.Clone(l[len(l)-1])
	return out
}

// singles answers n blocks of one point each, at 0, 1 and so on.
func singles(t *testing.T, n int) []api.Block {
	t.Helper()
	out := make([]api.Block, n)
	for i := range n {
		out[i] = made(t, from(i, 1))
	}
	return out
}

// with answers a shelf of nothing but the rows that are told, from series 0 on.
func with(rows ...api.Row) api.Shelf {
	out := api.Shelf{Rows: make([]api.Row, api.MaxSeries)}
	copy(out.Rows, rows)
	return out
}

// deep answers s in memory of its own, without the program.
func deep(s api.Shelf) api.Shelf {
	out := api.Shelf{Rows: slices.Clone(s.Rows)}
	for i := range out.Rows {
		r := &out.Rows[i]
		r.Blocks, r.Head = slices.Clone(r.Blocks), slices.Clone(r.Head)
		for j := range r.Blocks {
			r.Blocks[j].Bits = slices.Clone(r.Blocks[j].Bits)
		}
	}
	return out
}

// alike holds all fields against each other, without the program's own Same; a list of nothing is printed alike, nil or not.
func alike(a, b api.Shelf) bool { return fmt.Sprint(a) == fmt.Sprint(b) }

// altered answers s with one change, in memory of its own.
func altered(s api.Shelf, change func(*api.Shelf)) api.Shelf {
	out := deep(s)
	change(&out)
	return out
}

// plain answers a shelf with blocks and heads: series 0 has a head alone, 1 both, 2 blocks alone, 3 nothing.
func plain(t *testing.T) api.Shelf {
	t.Helper()
	return with(
		row(t, from(3, 2)),
		row(t, from(10, 3), from(20, 1), from(30, 2), from(50, 4)),
		row(t, from(0, 2), from(25, 5), nil),
	)
}

// answer is what any of the calls that change a shelf answers.
type answer struct {
	s api.Shelf
	e api.Errno
}

// refused tells whether there is that error alone.
func (a answer) refused(want api.Errno) bool {
	return a.e == want && reflect.ValueOf(a.s).IsZero()
}

func got(s api.Shelf, e api.Errno) answer { return answer{s, e} }

// P6.1: New has a row a series, all of them zero, and memory of its own each time.
func TestNew(t *testing.T) {
	s := shelf.New()
	if len(s.Rows) != api.MaxSeries {
		t.Fatalf("New: %d rows, want %d", len(s.Rows), api.MaxSeries)
	}
	for i, r := range s.Rows {
		if len(r.Blocks) != 0 || len(r.Head) != 0 {
			t.Errorf("New: row %d is %v", i, r)
		}
	}
	if e := shelf.Check(s); e != api.OK {
		t.Errorf("Check of New: %d", e)
	}
	s.Rows[0].Head = from(0, 1)
	if again := shelf.New(); len(again.Rows[0].Head) != 0 {
		t.Errorf("New, once more: %v", again)
	}
}

// P6.1: shelves that may be, the fullest ones among them.
func TestCheckLetsPass(t *testing.T) {
	full := singles(t, api.MaxBlocks)
	for what, s := range map[string]api.Shelf{
		"plain":                    plain(t),
		"nothing":                  with(),
		"as many blocks":           with(api.Row{Blocks: full}),
		"as many blocks, and more": with(api.Row{Blocks: full, Head: from(api.MaxBlocks, api.MaxPoints-api.MaxBlocks)}),
		"as many points":           with(row(t, from(0, api.MaxPoints))),
		"as many in a block":       with(row(t, from(0, api.MaxPoints), nil)),
		"as many in each row":      with(row(t, from(0, 40)), row(t, from(0, 39), from(39, 1)), row(t, from(0, 1), from(1, 39)), row(t, from(0, 40), nil)),
		"the outermost ones":       with(row(t, []api.Point{{T: 0, V: api.MaxValue}}, []api.Point{{T: api.MaxTime, V: -api.MaxValue}})),
		"next to each other":       with(row(t, from(0, 5), from(5, 5), from(10, 5))),
		"the same points in two":   with(row(t, from(7, 2)), row(t, from(7, 2), nil)),
	} {
		if e := shelf.Check(s); e != api.OK {
			t.Errorf("%s: %d, want OK", what, e)
		}
	}
}

// wrongRow is a row that may not be, and what is told of it.
type wrongRow struct {
	what string
	r    api.Row
	want api.Errno
}

func wrongRows(t *testing.T) []wrongRow {
	t.Helper()
	many := singles(t, api.MaxBlocks+1)
	bad := func(change func(*api.Block)) api.Block {
		b := made(t, from(5, 3))
		change(&b)
		return b
	}
	form := bad(func(b *api.Block) { b.From++ })
	torn := bad(func(b *api.Block) { b.Bits = append(b.Bits, false) })
	lots := bad(func(b *api.Block) { b.N = api.MaxPoints + 1 })
	return []wrongRow{
		{"a block too many", api.Row{Blocks: many}, api.ErrMany},
		{"a block too many, a wrong one first", api.Row{Blocks: append([]api.Block{form}, many...)}, api.ErrMany},
		{"far too many zero blocks", api.Row{Blocks: make([]api.Block, 1000)}, api.ErrMany},
		{"a zero block", api.Row{Blocks: make([]api.Block, 1)}, api.ErrForm},
		{"a moved end", api.Row{Blocks: []api.Block{form}}, api.ErrForm},
		{"a moved To", api.Row{Blocks: []api.Block{bad(func(b *api.Block) { b.To-- })}}, api.ErrForm},
		{"a bit too many", api.Row{Blocks: []api.Block{torn}}, api.ErrTorn},
		{"a bit too few", api.Row{Blocks: []api.Block{bad(func(b *api.Block) { b.Bits = b.Bits[:len(b.Bits)-1] })}}, api.ErrTorn},
		{"N above all", api.Row{Blocks: []api.Block{lots}}, api.ErrMany},
		{"N below 0", api.Row{Blocks: []api.Block{bad(func(b *api.Block) { b.N = math.MinInt })}}, api.ErrMany},
		{"the first wrong block first", api.Row{Blocks: []api.Block{torn, form}}, api.ErrTorn},
		{"the first wrong block first, the other way", api.Row{Blocks: []api.Block{form, torn}}, api.ErrForm},
		{"a wrong block behind a late one", api.Row{Blocks: []api.Block{made(t, from(9, 3)), made(t, from(2, 3)), torn}}, api.ErrTorn},
		{"a wrong block ahead of a wrong head", api.Row{Blocks: []api.Block{form}, Head: []api.Point{{T: -1}}}, api.ErrForm},
		{"blocks the wrong way round", row(t, from(9, 3), from(2, 3), nil), api.ErrLate},
		{"a block twice", row(t, from(9, 3), from(9, 3), nil), api.ErrLate},
		{"a block from the last time on", row(t, from(0, 5), from(4, 5), nil), api.ErrLate},
		{"a head from the last time on", row(t, from(0, 5), from(4, 1)), api.ErrLate},
		{"a head ahead of its blocks", row(t, from(10, 5), from(4, 1)), api.ErrLate},
		{"a head that stands still", row(t, []api.Point{{T: 4}, {T: 4}}), api.ErrLate},
		{"a T below 0", row(t, []api.Point{{T: -1}}), api.ErrRange},
		{"a T above all", row(t, []api.Point{{T: api.MaxTime + 1}}), api.ErrRange},
		{"a V below all", row(t, from(0, 2), []api.Point{{T: 5, V: -api.MaxValue - 1}}), api.ErrRange},
		{"a V above all", row(t, []api.Point{{V: math.MaxInt}}), api.ErrRange},
		{"a late one ahead of a wrong one", row(t, from(5, 1), []api.Point{{T: 5}, {T: -1}}), api.ErrLate},
		{"a point too many", row(t, from(0, api.MaxPoints+1)), api.ErrMany},
		{"a point too many, with a block", row(t, from(0, api.MaxPoints), from(900, 1)), api.ErrMany},
		{"a point too many, in blocks", row(t, from(0, 30), from(30, 11), nil), api.ErrMany},
		{"too many, ahead of late and wrong", row(t, from(0, 30), append(from(0, 10), api.Point{T: -1})), api.ErrMany},
		{"all blocks as full as may be", row(t, from(0, 40), from(40, 40), from(80, 40), from(120, 40)), api.ErrMany},
	}
}

// wrongShelf is a shelf that may not be, and what is told of it.
type wrongShelf struct {
	what string
	s    api.Shelf
	want api.Errno
}

// wrongShelves are those of a wrong row each, wherever it is, those of two, and those of not as many rows.
func wrongShelves(t *testing.T) []wrongShelf {
	t.Helper()
	rows := wrongRows(t)
	out := []wrongShelf{
		{"no rows", api.Shelf{}, api.ErrForm},
		{"empty rows", api.Shelf{Rows: []api.Row{}}, api.ErrForm},
		{"a row too few", api.Shelf{Rows: make([]api.Row, api.MaxSeries-1)}, api.ErrForm},
		{"a row too many", api.Shelf{Rows: make([]api.Row, api.MaxSeries+1)}, api.ErrForm},
	}
	for i, w := range rows {
		for at := range api.MaxSeries {
			out = append(out, wrongShelf{fmt.Sprint(w.what, ", row ", at), altered(plain(t), func(s *api.Shelf) { s.Rows[at] = w.r }), w.want})
		}
		other := rows[(i+7)%len(rows)]
		out = append(out,
			wrongShelf{w.what + ", ahead of " + other.what, with(api.Row{}, w.r, api.Row{}, other.r), w.want},
			wrongShelf{w.what + ", a row too few", api.Shelf{Rows: []api.Row{w.r, {}, {}}}, api.ErrForm},
		)
	}
	return out
}

// P6.1: Check tells the first wrong row, and of it too many blocks, then a wrong block, then wrong points.
func TestCheckRefuses(t *testing.T) {
	for _, w := range wrongShelves(t) {
		if e := shelf.Check(w.s); e != w.want {
			t.Errorf("%s: %d, want %d", w.what, e, w.want)
		}
	}
}

// P6.1, P3: all others tell Check's error ahead of their own, and nothing else; they leave what is wrong as it is.
func TestOthersCheckFirst(t *testing.T) {
	for _, w := range wrongShelves(t) {
		before := deep(w.s)
		for _, at := range []int{0, 1, api.MaxSeries, -1, math.MinInt} {
			if l, e := shelf.All(w.s, at); len(l) != 0 || e != w.want {
				t.Errorf("%s: All of %d: %v %d, want %d alone", w.what, at, l, e, w.want)
			}
			for what, a := range map[string]answer{
				"Put":             got(shelf.Put(w.s, []api.Entry{{Series: at, T: 90}})),
				"Put of too many": got(shelf.Put(w.s, make([]api.Entry, api.MaxBatch+1))),
				"Put of none":     got(shelf.Put(w.s, nil)),
				"Seal":            got(shelf.Seal(w.s, at, 1)),
				"Seal of none":    got(shelf.Seal(w.s, at, 0)),
				"Merge":           got(shelf.Merge(w.s, at, 0)),
				"Merge of none":   got(shelf.Merge(w.s, at, math.MaxInt)),
				"Drop":            got(shelf.Drop(w.s, 0)),
				"Drop of all":     got(shelf.Drop(w.s, api.MaxTime+1)),
				"Drop below 0":    got(shelf.Drop(w.s, -1)),
			} {
				if !a.refused(w.want) {
					t.Errorf("%s: %s, series %d: %v, want %d alone", w.what, what, at, a, w.want)
				}
			}
		}
		if !alike(w.s, before) {
			t.Errorf("%s: was %v, is %v", w.what, before, w.s)
		}
	}
}

// P6.1: Same asks for each field, of shelves that may not be, too; a list of nothing is alike, nil or not.
func TestSame(t *testing.T) {
	s := plain(t)
	for _, c := range []struct {
		what string
		b    api.Shelf
		want bool
	}{
		{"itself", s, true},
		{"a copy", deep(s), true},
		{"nil and empty", altered(s, func(s *api.Shelf) { s.Rows[3] = api.Row{Blocks: []api.Block{}, Head: []api.Point{}} }), true},
		{"spare room", altered(s, func(s *api.Shelf) { s.Rows[1].Head = append(s.Rows[1].Head, api.Point{T: 99})[:4] }), true},
		{"N", altered(s, func(s *api.Shelf) { s.Rows[1].Blocks[0].N++ }), false},
		{"From", altered(s, func(s *api.Shelf) { s.Rows[1].Blocks[1].From-- }), false},
		{"To", altered(s, func(s *api.Shelf) { s.Rows[2].Blocks[1].To++ }), false},
		{"a bit", altered(s, func(s *api.Shelf) { s.Rows[2].Blocks[0].Bits[3] = !s.Rows[2].Blocks[0].Bits[3] }), false},
		{"a bit more", altered(s, func(s *api.Shelf) { s.Rows[2].Blocks[0].Bits = append(s.Rows[2].Blocks[0].Bits, false) }), false},
		{"T", altered(s, func(s *api.Shelf) { s.Rows[0].Head[0].T-- }), false},
		{"V", altered(s, func(s *api.Shelf) { s.Rows[1].Head[3].V++ }), false},
		{"a point less", altered(s, func(s *api.Shelf) { s.Rows[0].Head = s.Rows[0].Head[:1] }), false},
		{"a point more", altered(s, func(s *api.Shelf) { s.Rows[3].Head = from(0, 1) }), false},
		{"a block less", altered(s, func(s *api.Shelf) { s.Rows[2].Blocks = s.Rows[2].Blocks[:1] }), false},
		{"a zero block more", altered(s, func(s *api.Shelf) { s.Rows[3].Blocks = make([]api.Block, 1) }), false},
		{"blocks in another order", altered(s, func(s *api.Shelf) { slices.Reverse(s.Rows[2].Blocks) }), false},
		{"rows in another order", altered(s, func(s *api.Shelf) { slices.Reverse(s.Rows) }), false},
		{"a row less", altered(s, func(s *api.Shelf) { s.Rows = s.Rows[:3] }), false},
		{"a row more", altered(s, func(s *api.Shelf) { s.Rows = append(s.Rows, api.Row{}) }), false},
		{"the same points otherwise", altered(s, func(s *api.Shelf) { s.Rows[0] = row(t, from(3, 2), nil) }), false},
		{"no rows", api.Shelf{}, false},
	} {
		if got := shelf.Same(s, c.b); got != c.want {
			t.Errorf("%s: %t, want %t", c.what, got, c.want)
		}
		if got := shelf.Same(c.b, s); got != c.want {
			t.Errorf("%s, the other way: %t, want %t", c.what, got, c.want)
		}
	}
	if !shelf.Same(api.Shelf{}, api.Shelf{Rows: []api.Row{}}) {
		t.Error("no rows, nil and empty: false")
	}
	wrong := wrongShelves(t)
	for i, w := range wrong {
		if !shelf.Same(w.s, deep(w.s)) {
			t.Errorf("%s, a copy: false", w.what)
		}
		next := wrong[(i+1)%len(wrong)].s
		if got := shelf.Same(w.s, next); got != alike(w.s, next) {
			t.Errorf("%s, and the next one: %t", w.what, got)
		}
	}
}

// P6.2: All answers the points of the blocks, one behind the other, and then the head.
func TestAll(t *testing.T) {
	s := plain(t)
	for series, want := range [][]api.Point{
		from(3, 2),
		slices.Concat(from(10, 3), from(20, 1), from(30, 2), from(50, 4)),
		slices.Concat(from(0, 2), from(25, 5)),
		nil,
	} {
		if l, e := shelf.All(s, series); !slices.Equal(l, want) || e != api.OK {
			t.Errorf("All of %d: %v %d, want %v", series, l, e, want)
		}
	}
	for _, series := range []int{-1, api.MaxSeries, math.MinInt, math.MaxInt} {
		if l, e := shelf.All(s, series); len(l) != 0 || e != api.ErrWho {
			t.Errorf("All of %d: %v %d, want ErrWho alone", series, l, e)
		}
	}
}

// P6.2: entries stand behind the heads of their series, in their order; blocks stay.
func TestPut(t *testing.T) {
	s := plain(t)
	a := got(shelf.Put(s, []api.Entry{
		{Series: 1, T: 60, V: 1}, {Series: 3, T: 0, V: -api.MaxValue}, {Series: 2, T: 30, V: 2}, {Series: 1, T: 61, V: 3},
		{Series: 3, T: api.MaxTime, V: api.MaxValue}, {Series: 0, T: 5, V: 4},
	}))
	want := altered(s, func(s *api.Shelf) {
		s.Rows[0].Head = append(s.Rows[0].Head, api.Point{T: 5, V: 4})
		s.Rows[1].Head = append(s.Rows[1].Head, api.Point{T: 60, V: 1}, api.Point{T: 61, V: 3})
		s.Rows[2].Head = []api.Point{{T: 30, V: 2}}
		s.Rows[3].Head = []api.Point{{T: 0, V: -api.MaxValue}, {T: api.MaxTime, V: api.MaxValue}}
	})
	if a.e != api.OK || !alike(a.s, want) {
		t.Errorf("Put: %v, want %v", a, want)
	}
	for _, none := range [][]api.Entry{nil, {}} {
		if a := got(shelf.Put(s, none)); a.e != api.OK || !alike(a.s, s) {
			t.Errorf("Put of nothing: %v, want %v", a, s)
		}
	}
}

// batch answers n entries of one series, at each time from start on.
func batch(series, start, n int) []api.Entry {
	out := make([]api.Entry, n)
	for i := range n {
		out[i] = api.Entry{Series: series, T: start + i, V: i}
	}
	return out
}

// P6.2, P3: too many are told first, then the first wrong entry; a batch with an error puts nothing.
func TestPutRefuses(t *testing.T) {
	s := altered(plain(t), func(s *api.Shelf) { s.Rows[3] = row(t, from(0, 30), from(100, 9)) })
	for _, c := range []struct {
		what string
		l    []api.Entry
		want api.Errno
	}{
		{"as many as may be", batch(1, 90, api.MaxBatch), api.OK},
		{"one too many", batch(1, 90, api.MaxBatch+1), api.ErrMany},
		{"one too many, all of nobody", batch(-1, 90, api.MaxBatch+1), api.ErrMany},
		{"no such series", batch(api.MaxSeries, 90, 1), api.ErrWho},
		{"no such series, below 0", batch(-1, 90, 1), api.ErrWho},
		{"no such series, far off", batch(math.MaxInt, 90, 1), api.ErrWho},
		{"no such series, far below", batch(math.MinInt, 90, 1), api.ErrWho},
		{"of nobody, and wrong", []api.Entry{{Series: 4, T: -1}}, api.ErrWho},
		{"a wrong one, then of nobody", []api.Entry{{Series: 1, T: -1}, {Series: 4}}, api.ErrRange},
		{"of nobody, then a wrong one", []api.Entry{{Series: 4}, {Series: 1, T: -1}}, api.ErrWho},
		{"a fine one, then of nobody", []api.Entry{{Series: 1, T: 90}, {Series: 4}}, api.ErrWho},
		{"a fine one, then a late one", []api.Entry{{Series: 1, T: 90}, {Series: 0, T: 4}}, api.ErrLate},
		{"a late one, then a wrong one", []api.Entry{{Series: 0, T: 4}, {Series: 1, T: -1}}, api.ErrLate},
		{"the last time of a head", []api.Entry{{Series: 1, T: 53}}, api.ErrLate},
		{"behind the last time of a head", []api.Entry{{Series: 1, T: 54}}, api.OK},
		{"the last time of blocks", []api.Entry{{Series: 2, T: 29}}, api.ErrLate},
		{"behind the last time of blocks", []api.Entry{{Series: 2, T: 30}}, api.OK},
		{"twice in a batch", []api.Entry{{Series: 2, T: 30}, {Series: 2, T: 30}}, api.ErrLate},
		{"the wrong way round in a batch", []api.Entry{{Series: 2, T: 31}, {Series: 2, T: 30}}, api.ErrLate},
		{"one time in two series", []api.Entry{{Series: 1, T: 90}, {Series: 2, T: 90}}, api.OK},
		{"T below 0", []api.Entry{{Series: 1, T: -1}}, api.ErrRange},
		{"T as great as may be", []api.Entry{{Series: 1, T: api.MaxTime}}, api.OK},
		{"T above all", []api.Entry{{Series: 1, T: api.MaxTime + 1}}, api.ErrRange},
		{"V as small as may be", []api.Entry{{Series: 1, T: 90, V: -api.MaxValue}}, api.OK},
		{"V below all", []api.Entry{{Series: 1, T: 90, V: -api.MaxValue - 1}}, api.ErrRange},
		{"V above all, and late", []api.Entry{{Series: 1, T: 3, V: math.MaxInt}}, api.ErrRange},
		{"the last point that may be", batch(3, 200, 1), api.OK},
		{"one too many of a series", batch(3, 200, 2), api.ErrMany},
		{"too many, ahead of a wrong one", []api.Entry{{Series: 3, T: 200}, {Series: 3, T: -1}}, api.ErrMany},
		{"a wrong one, ahead of too many", []api.Entry{{Series: 3, T: -1}, {Series: 3, T: 200}}, api.ErrRange},
	} {
		before := deep(s)
		a := got(shelf.Put(s, c.l))
		if c.want != api.OK && !a.refused(c.want) || a.e != c.want {
			t.Errorf("%s: %v, want %d", c.what, a, c.want)
		}
		if !alike(s, before) {
			t.Fatalf("%s: was %v, is %v", c.what, before, s)
		}
	}
}

// P6.3: the first n points of the head become a block behind the others; the rest stays.
func TestSeal(t *testing.T) {
	s := plain(t)
	for n := 1; n <= 4; n++ {
		a := got(shelf.Seal(s, 1, n))
		want := altered(s, func(s *api.Shelf) {
			s.Rows[1].Blocks = append(s.Rows[1].Blocks, made(t, s.Rows[1].Head[:n]))
			s.Rows[1].Head = s.Rows[1].Head[n:]
		})
		if a.e != api.OK || !alike(a.s, want) {
			t.Errorf("Seal of %d: %v, want %v", n, a, want)
		}
	}
}

// P6.3: Seal tells of no such series, then of a wrong n, then of too many blocks.
func TestSealRefuses(t *testing.T) {
	s := altered(plain(t), func(s *api.Shelf) {
		s.Rows[2] = api.Row{Blocks: singles(t, api.MaxBlocks-1), Head: from(50, 2)}
		s.Rows[3] = api.Row{Blocks: singles(t, api.MaxBlocks), Head: from(50, 2)}
	})
	for _, c := range []struct {
		series, n int
		want      api.Errno
	}{
		{-1, 1, api.ErrWho},
		{api.MaxSeries, 1, api.ErrWho},
		{api.MaxSeries, 0, api.ErrWho},
		{math.MinInt, math.MinInt, api.ErrWho},
		{0, 0, api.ErrRange},
		{0, -1, api.ErrRange},
		{0, 1, api.OK},
		{0, 2, api.OK},
		{0, 3, api.ErrRange},
		{0, math.MinInt, api.ErrRange},
		{0, math.MaxInt, api.ErrRange},
		{2, 2, api.OK},
		{2, 3, api.ErrRange},
		{3, 0, api.ErrRange},
		{3, 1, api.ErrMany},
		{3, 2, api.ErrMany},
		{3, 3, api.ErrRange},
	} {
		a := got(shelf.Seal(s, c.series, c.n))
		if c.want != api.OK && !a.refused(c.want) || a.e != c.want {
			t.Errorf("Seal of %d, %d: %v, want %d", c.series, c.n, a, c.want)
		}
	}
	if a := got(shelf.Seal(shelf.New(), 0, 1)); !a.refused(api.ErrRange) {
		t.Errorf("Seal of an empty head: %v, want ErrRange alone", a)
	}
}

// P6.3: blocks k and k + 1 become one, at the place of both; the others stay.
func TestMerge(t *testing.T) {
	s := plain(t)
	first, second, third := from(10, 3), from(20, 1), from(30, 2)
	for k, want := range []api.Row{
		row(t, slices.Concat(first, second), third, from(50, 4)),
		row(t, first, slices.Concat(second, third), from(50, 4)),
	} {
		a := got(shelf.Merge(s, 1, k))
		whole := altered(s, func(s *api.Shelf) { s.Rows[1] = want })
		if a.e != api.OK || !alike(a.s, whole) {
			t.Errorf("Merge of %d: %v, want %v", k, a, whole)
		}
	}
}

// P6.3: Merge tells of no such series, then of blocks that aren't there.
func TestMergeRefuses(t *testing.T) {
	s := altered(plain(t), func(s *api.Shelf) { s.Rows[3].Blocks = singles(t, api.MaxBlocks) })
	for _, c := range []struct {
		series, k int
		want      api.Errno
	}{
		{-1, 0, api.ErrWho},
		{api.MaxSeries, 0, api.ErrWho},
		{api.MaxSeries, -1, api.ErrWho},
		{math.MaxInt, math.MaxInt, api.ErrWho},
		{0, 0, api.ErrRange},
		{0, -1, api.ErrRange},
		{1, -1, api.ErrRange},
		{1, 0, api.OK},
		{1, 1, api.OK},
		{1, 2, api.ErrRange},
		{1, 3, api.ErrRange},
		{1, math.MaxInt, api.ErrRange},
		{1, math.MaxInt - 1, api.ErrRange},
		{1, math.MinInt, api.ErrRange},
		{2, 0, api.OK},
		{2, 1, api.ErrRange},
		{3, api.MaxBlocks - 2, api.OK},
		{3, api.MaxBlocks - 1, api.ErrRange},
	} {
		a := got(shelf.Merge(s, c.series, c.k))
		if c.want != api.OK && !a.refused(c.want) || a.e != c.want {
			t.Errorf("Merge of %d, %d: %v, want %d", c.series, c.k, a, c.want)
		}
	}
	one := with(row(t, from(0, 3), from(9, 9)))
	if a := got(shelf.Merge(one, 0, 0)); !a.refused(api.ErrRange) {
		t.Errorf("Merge of one block: %v, want ErrRange alone", a)
	}
}

// P6.3: of all rows the blocks go whose last time is below; those that only begin below stay whole, and so do heads.
func TestDrop(t *testing.T) {
	s := plain(t)
	for _, c := range []struct{ before, ones, twos int }{
		// Row 1 ends at 12, 20, 31, row 2 at 1, 29: how many of each are left.
		{0, 3, 2}, {1, 3, 2}, {2, 3, 1}, {12, 3, 1}, {13, 2, 1}, {20, 2, 1}, {21, 1, 1}, {26, 1, 1}, {29, 1, 1},
		{30, 1, 0}, {31, 1, 0}, {32, 0, 0}, {52, 0, 0}, {api.MaxTime, 0, 0}, {api.MaxTime + 1, 0, 0},
	} {
		a := got(shelf.Drop(s, c.before))
		want := altered(s, func(s *api.Shelf) {
			s.Rows[1].Blocks = s.Rows[1].Blocks[3-c.ones:]
			s.Rows[2].Blocks = s.Rows[2].Blocks[2-c.twos:]
		})
		if a.e != api.OK || !alike(a.s, want) {
			t.Errorf("Drop of %d: %v, want %v", c.before, a, want)
		}
	}
	for _, before := range []int{-1, api.MaxTime + 2, math.MinInt, math.MaxInt} {
		if a := got(shelf.Drop(s, before)); !a.refused(api.ErrRange) {
			t.Errorf("Drop of %d: %v, want ErrRange alone", before, a)
		}
	}
	last := with(row(t, []api.Point{{T: api.MaxTime}}, nil))
	if a := got(shelf.Drop(last, api.MaxTime)); a.e != api.OK || len(a.s.Rows[0].Blocks) != 1 {
		t.Errorf("Drop of a block at the last time: %v", a)
	}
	if a := got(shelf.Drop(last, api.MaxTime+1)); a.e != api.OK || len(a.s.Rows[0].Blocks) != 0 {
		t.Errorf("Drop of all: %v", a)
	}
}

// calls are all calls that change a shelf, each with something that it has to do, and with nothing where it may.
func calls() map[string]func(api.Shelf) answer {
	return map[string]func(api.Shelf) answer{
		"Put":         func(s api.Shelf) answer { return got(shelf.Put(s, batch(1, 90, 3))) },
		"Put of none": func(s api.Shelf) answer { return got(shelf.Put(s, nil)) },
		"Seal":        func(s api.Shelf) answer { return got(shelf.Seal(s, 1, 2)) },
		"Merge":       func(s api.Shelf) answer { return got(shelf.Merge(s, 1, 1)) },
		"Drop":        func(s api.Shelf) answer { return got(shelf.Drop(s, 13)) },
		"Drop of 0":   func(s api.Shelf) answer { return got(shelf.Drop(s, 0)) },
	}
}

// roomy answers s with something behind each of its lists that isn't its own.
func roomy(s api.Shelf) api.Shelf {
	out := deep(s)
	for i := range out.Rows {
		r := &out.Rows[i]
		for j := range r.Blocks {
			b := &r.Blocks[j]
			b.Bits = append(b.Bits, true, false, true)[:len(b.Bits)]
		}
		r.Blocks = append(r.Blocks, api.Block{N: 7}, api.Block{N: 8})[:len(r.Blocks)]
		r.Head = append(r.Head, from(70, 20)...)[:len(r.Head)]
	}
	out.Rows = append(out.Rows, api.Row{Head: from(80, 1)})[:len(out.Rows)]
	return out
}

// spread answers s with all spare room behind its lists as parts of them, so that a change there is seen.
func spread(s api.Shelf) api.Shelf {
	out := api.Shelf{Rows: slices.Clone(s.Rows[:cap(s.Rows)])}
	for i := range out.Rows {
		r := &out.Rows[i]
		r.Blocks, r.Head = slices.Clone(r.Blocks[:cap(r.Blocks)]), slices.Clone(r.Head[:cap(r.Head)])
		for j := range r.Blocks {
			b := &r.Blocks[j]
			b.Bits = slices.Clone(b.Bits[:cap(b.Bits)])
		}
	}
	return out
}

// scramble changes all lists of s, and the spare room behind them, so that shared memory is seen.
func scramble(s api.Shelf) {
	for _, r := range s.Rows {
		for _, b := range r.Blocks {
			for i := range b.Bits[:cap(b.Bits)] {
				b.Bits[:cap(b.Bits)][i] = i%3 == 0
			}
		}
		clear(r.Blocks[:cap(r.Blocks)])
		clear(r.Head[:cap(r.Head)])
	}
	clear(s.Rows[:cap(s.Rows)])
}

// P2: what is handed in is only read, with its spare room, and what is answered shares nothing with it.
func TestOnlyReads(t *testing.T) {
	for what, call := range calls() {
		want := call(plain(t))
		s := roomy(plain(t))
		before := spread(s)
		a := call(s)
		if a.e != api.OK || !alike(a.s, want.s) {
			t.Errorf("%s with spare room: %v, want %v", what, a, want)
		}
		if !alike(spread(s), before) {
			t.Errorf("%s: was %v, is %v", what, before, spread(s))
		}
		scramble(a.s)
		if !alike(spread(s), before) {
			t.Errorf("%s: what was handed in hangs on the answer: was %v, is %v", what, before, spread(s))
		}
		a = call(s)
		scramble(s)
		if !alike(a.s, want.s) {
			t.Errorf("%s: the answer hangs on what was handed in: was %v, is %v", what, want.s, a.s)
		}
	}
}

// P2: rows that share their lists are answered apart from each other.
func TestSharedRowsAreParted(t *testing.T) {
	r := row(t, from(10, 3), from(20, 1), from(30, 2), from(50, 4))
	for what, call := range calls() {
		a := call(with(r, r, r, r))
		if a.e != api.OK {
			t.Fatalf("%s: %v", what, a)
		}
		before := deep(a.s)
		for i := range a.s.Rows {
			rest := deep(api.Shelf{Rows: a.s.Rows[i+1:]})
			scramble(api.Shelf{Rows: slices.Clone(a.s.Rows[i : i+1])})
			if !alike(api.Shelf{Rows: a.s.Rows[i+1:]}, rest) {
				t.Errorf("%s: rows behind %d hang on it: were %v, are %v", what, i, before, a.s)
			}
		}
	}
}

// P2: blocks of one row share nothing with each other, and neither with its head.
func TestBlocksAreApart(t *testing.T) {
	for what, call := range calls() {
		r := call(plain(t)).s.Rows[1]
		want := deep(api.Shelf{Rows: []api.Row{r}}).Rows[0]
		for i, b := range r.Blocks {
			for j := range b.Bits[:cap(b.Bits)] {
				b.Bits[:cap(b.Bits)][j] = j%3 == 0
			}
			if !alike(api.Shelf{Rows: []api.Row{{Blocks: r.Blocks[i+1:], Head: r.Head}}}, api.Shelf{Rows: []api.Row{{Blocks: want.Blocks[i+1:], Head: want.Head}}}) {
				t.Errorf("%s: what is behind block %d hangs on it: %v, was %v", what, i, r, want)
			}
		}
	}
}

// P2: All's points and Put's entries are neither changed nor kept.
func TestListsAreApart(t *testing.T) {
	s := roomy(plain(t))
	before := spread(s)
	for series := range api.MaxSeries {
		l, _ := shelf.All(s, series)
		clear(l[:cap(l)])
		if !alike(spread(s), before) {
			t.Errorf("All of %d: the shelf hangs on its answer: was %v, is %v", series, before, spread(s))
		}
	}
	whole := batch(1, 90, 5)
	whole[4].Series = -1
	kept := slices.Clone(whole)
	a := got(shelf.Put(s, whole[:3]))
	want := deep(a.s)
	if a.e != api.OK || !slices.Equal(whole, kept) {
		t.Errorf("Put: %d; entries were %v, are %v", a.e, kept, whole)
	}
	clear(whole)
	if !alike(a.s, want) {
		t.Errorf("Put: the shelf hangs on the entries: was %v, is %v", want, a.s)
	}
}

// dice answers numbers that look thrown and are the same at each run.
func dice(seed uint32) func(n int) int {
	return func(n int) int {
		seed = seed*1664525 + 1013904223
		return int(seed>>8) % n
	}
}

// everything answers the points of all series.
func everything(t *testing.T, s api.Shelf) [][]api.Point {
	t.Helper()
	out := make([][]api.Point, api.MaxSeries)
	for i := range out {
		l, e := shelf.All(s, i)
		if e != api.OK {
			t.Fatalf("All of %d of %v: %d", i, s, e)
		}
		out[i] = l
	}
	return out
}

// step does something to s that is thrown, and answers what, and which points there must be then, if it has no error.
func step(t *testing.T, throw func(int) int, s api.Shelf) (what string, a answer, want [][]api.Point) {
	t.Helper()
	series := throw(api.MaxSeries)
	want = everything(t, s)
	switch throw(5) {
	case 0, 1:
		l := batch(series, 1000*throw(30), 1+throw(api.MaxBatch))
		for _, x := range l {
			want[series] = append(want[series], api.Point{T: x.T, V: x.V})
		}
		return "put", got(shelf.Put(s, l)), want
	case 2:
		return "seal", got(shelf.Seal(s, series, 1+throw(4))), want
	case 3:
		return "merge", got(shelf.Merge(s, series, throw(3))), want
	}
	before := 1000*throw(8) + throw(10)
	a = got(shelf.Drop(s, before))
	now := everything(t, a.s)
	for i, had := range want {
		gone := len(had) - len(now[i])
		if gone < 0 || !slices.Equal(now[i], had[gone:]) || slices.ContainsFunc(had[:gone], func(p api.Point) bool { return p.T >= before }) {
			t.Fatalf("Drop of %d: %v became %v", before, had, now[i])
		}
	}
	return "drop", a, now
}

// P6.4: whatever is done, Seal and Merge change no points, Drop takes only those below, and Put only adds its own; each shelf is fine.
func TestLongWalks(t *testing.T) {
	did := map[string]int{}
	for seed := range 60 {
		throw := dice(uint32(seed))
		s := shelf.New()
		for range 60 {
			before := deep(s)
			what, a, want := step(t, throw, s)
			if !alike(s, before) {
				t.Fatalf("%s: was %v, is %v", what, before, s)
			}
			if a.e != api.OK {
				if !a.refused(a.e) {
					t.Fatalf("%s: %v", what, a)
				}
				continue
			}
			did[what]++
			if e := shelf.Check(a.s); e != api.OK {
				t.Fatalf("%s: %v isn't fine: %d", what, a.s, e)
			}
			if now := everything(t, a.s); fmt.Sprint(now) != fmt.Sprint(want) {
				t.Fatalf("%s: %v, want %v", what, now, want)
			}
			s = a.s
		}
	}
	for _, what := range []string{"put", "seal", "merge", "drop"} {
		if did[what] < 50 {
			t.Errorf("%s was done only %d times", what, did[what])
		}
	}
}

// P6.4: however a head is sealed bit by bit, once all blocks are merged, the row is the one that is sealed at once.
func TestSealedAndMergedIsSealedAtOnce(t *testing.T) {
	l := from(17, 6)
	s := with(row(t, l))
	want := with(row(t, l, nil))
	for first := 1; first < len(l); first++ {
		for second := 1; first+second < len(l); second++ {
			x := s
			for _, n := range []int{first, second, len(l) - first - second} {
				a := got(shelf.Seal(x, 0, n))
				if a.e != api.OK {
					t.Fatalf("Seal of %d: %v", n, a)
				}
				x = a.s
			}
			for _, order := range [][]int{{0, 0}, {1, 0}} {
				y := x
				for _, k := range order {
					a := got(shelf.Merge(y, 0, k))
					if a.e != api.OK {
						t.Fatalf("Merge of %d: %v", k, a)
					}
					y = a.s
				}
				if !alike(y, want) || !shelf.Same(y, want) {
					t.Errorf("sealed by %d, %d, merged by %v: %v, want %v", first, second, order, y, want)
				}
			}
		}
	}
}

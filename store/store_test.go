package store_test

import (
	"fmt"
	"math"
	"reflect"
	"slices"
	"testing"

	"rainbook/api"
	"rainbook/block"
	"rainbook/shelf"
	"rainbook/store"
)

// from answers n points, one at each time from start on.
func from(start, n int) []api.Point {
	out := make([]api.Point, n)
	for i := range n {
		out[i] = api.Point{T: start + i, V: 3*i - start}
	}
	return out
}

// row answers a row of one block of each list but the last one, which is its Head.
func row(t *testing.T, l ...[]api.Point) api.Row {
	t.Helper()
	var out api.Row
	for _, part := range l[:len(l)-1] {
		b, e := block.Make(part)
		if e != api.OK {
			t.Fatalf("Make(%v): %d", part, e)
		}
		out.Blocks = append(out.Blocks, b)
	}
	out.Head = slices.Clone(l[len(l)-1])
	return out
}

// with answers a shelf of nothing but the rows that are told, from series 0 on.
func with(rows ...api.Row) api.Shelf {
	out := api.Shelf{Rows: make([]api.Row, api.MaxSeries)}
	copy(out.Rows, rows)
	return out
}

// crowded answers a row that has as many blocks as may be, of a point each at 0, 1 and so on, and three points behind them.
func crowded(t *testing.T) api.Row {
	t.Helper()
	var l [][]api.Point
	for i := range api.MaxBlocks {
		l = append(l, from(i, 1))
	}
	return row(t, append(l, from(20, 3))...)
}

// plain answers a shelf with blocks and heads: series 0 has a head alone, 1 both, 2 as many blocks as may be, 3 nothing.
func plain(t *testing.T) api.Shelf {
	t.Helper()
	return with(
		row(t, from(3, 2)),
		row(t, from(10, 3), from(20, 1), from(30, 2), from(50, 4)),
		crowded(t),
	)
}

// deep answers s in memory of its own, without the program.
func deep(s api.Shelf) api.Shelf {
	out := api.Shelf{Rows: slices.Clone(s.Rows)}
	for i := range out.Rows {
		r := &out.Rows[i]
		r.Blocks, r.Head = slices.Clone(r.Blocks), slices.Clone(r.Head)
		for j := range r.Blocks {
			r.Blocks[j].Bits = slices.Clone(r.Blocks[j].Bits)
		}
	}
	return out
}

// altered answers s with one change, in memory of its own.
func altered(s api.Shelf, change func(*api.Shelf)) api.Shelf {
	out := deep(s)
	change(&out)
	return out
}

// alike holds all fields against each other, without the program; a list of nothing is printed alike, nil or not.
func alike(a, b any) bool { return fmt.Sprint(a) == fmt.Sprint(b) }

// answer is what both calls answer.
type answer struct {
	s api.Shelf
	e api.Errno
}

func got(s api.Shelf, e api.Errno) answer { return answer{s, e} }

// refused tells whether there is that error alone.
func (a answer) refused(want api.Errno) bool {
	return a.e == want && reflect.ValueOf(a.s).IsZero()
}

// is tells whether there is no error, and that shelf.
func (a answer) is(want api.Shelf) bool { return a.e == api.OK && alike(a.s, want) }

func batch(l ...api.Entry) api.Rec        { return api.Rec{Kind: api.RBatch, E: l} }
func seal(series, n int) api.Rec          { return api.Rec{Kind: api.RSeal, Series: series, N: n} }
func merge(series, k int) api.Rec         { return api.Rec{Kind: api.RMerge, Series: series, N: k} }
func drop(before int) api.Rec             { return api.Rec{Kind: api.RDrop, N: before} }
func entry(series, time, v int) api.Entry { return api.Entry{Series: series, T: time, V: v} }

// entries answers n entries of one series, at each time from start on.
func entries(series, start, n int) []api.Entry {
	out := make([]api.Entry, n)
	for i := range n {
		out[i] = entry(series, start+i, i)
	}
	return out
}

// P10.1: a batch, a seal, a merge and a drop do what chapter 6 says of each, and nothing else.
func TestNext(t *testing.T) {
	s := plain(t)
	for _, c := range []struct {
		what string
		r    api.Rec
		want func(*api.Shelf)
	}{
		{"a batch of two series", batch(entry(3, 7, -1), entry(0, 5, 8), entry(3, 8, 2)), func(s *api.Shelf) {
			s.Rows[0].Head = append(s.Rows[0].Head, api.Point{T: 5, V: 8})
			s.Rows[3].Head = []api.Point{{T: 7, V: -1}, {T: 8, V: 2}}
		}},
		{"a batch of nothing", batch(), func(*api.Shelf) {}},
		{"a batch of a list of nothing", batch([]api.Entry{}...), func(*api.Shelf) {}},
		{"a batch behind blocks", batch(entry(2, 23, 0)), func(s *api.Shelf) { s.Rows[2].Head = append(s.Rows[2].Head, api.Point{T: 23}) }},
		{"as great a batch as may be", batch(entries(3, 0, api.MaxBatch)...), func(s *api.Shelf) {
			for i := range api.MaxBatch {
				s.Rows[3].Head = append(s.Rows[3].Head, api.Point{T: i, V: i})
			}
		}},
		{"the outermost points", batch(entry(3, 0, api.MaxValue), entry(3, api.MaxTime, -api.MaxValue)), func(s *api.Shelf) {
			s.Rows[3].Head = []api.Point{{V: api.MaxValue}, {T: api.MaxTime, V: -api.MaxValue}}
		}},
		{"a seal of one", seal(0, 1), func(s *api.Shelf) { s.Rows[0] = row(t, from(3, 2)[:1], from(3, 2)[1:]) }},
		{"a seal of all", seal(0, 2), func(s *api.Shelf) { s.Rows[0] = row(t, from(3, 2), nil) }},
		{"a seal behind blocks", seal(1, 3), func(s *api.Shelf) {
			s.Rows[1] = row(t, from(10, 3), from(20, 1), from(30, 2), from(50, 4)[:3], from(50, 4)[3:])
		}},
		{"a merge of the first two", merge(1, 0), func(s *api.Shelf) {
			s.Rows[1] = row(t, append(from(10, 3), from(20, 1)...), from(30, 2), from(50, 4))
		}},
		{"a merge of the last two", merge(1, 1), func(s *api.Shelf) {
			s.Rows[1] = row(t, from(10, 3), append(from(20, 1), from(30, 2)...), from(50, 4))
		}},
		{"a merge among as many blocks as may be", merge(2, api.MaxBlocks-2), func(s *api.Shelf) {
			last := row(t, slices.Concat(from(6, 1), from(7, 1)), nil)
			s.Rows[2].Blocks = append(s.Rows[2].Blocks[:6], last.Blocks...)
		}},
		{"a drop of nothing", drop(0), func(*api.Shelf) {}},
		{"a drop of what ends ahead", drop(5), func(s *api.Shelf) { s.Rows[2].Blocks = s.Rows[2].Blocks[5:] }},
		{"a drop at the end of a block", drop(12), func(s *api.Shelf) { s.Rows[2].Blocks = nil }},
		{"a drop of all series' blocks that end ahead", drop(13), func(s *api.Shelf) {
			s.Rows[1].Blocks, s.Rows[2].Blocks = s.Rows[1].Blocks[1:], nil
		}},
		{"a drop of all blocks", drop(api.MaxTime + 1), func(s *api.Shelf) { s.Rows[1].Blocks, s.Rows[2].Blocks = nil, nil }},
	} {
		before, want := deep(s), altered(s, c.want)
		if a := got(store.Next(s, c.r)); !a.is(want) {
			t.Errorf("%s: %v, want %v", c.what, a, want)
		}
		if !alike(s, before) {
			t.Fatalf("%s: the shelf was %v, is %v", c.what, before, s)
		}
	}
}

// wrong is a record that has an error on the plain shelf.
type wrong struct {
	what string
	r    api.Rec
	want api.Errno
}

// wrongRecords may not be, whatever the shelf is; what the shelf says of most of them is something else, or nothing.
func wrongRecords() []wrong {
	one := entries(3, 0, 1)
	return []wrong{
		{"no kind", api.Rec{}, api.ErrForm},
		{"no kind, and entries", api.Rec{E: one}, api.ErrForm},
		{"a kind below 0", api.Rec{Kind: -1, N: 1}, api.ErrForm},
		{"a kind that there isn't", api.Rec{Kind: 5, N: 1}, api.ErrForm},
		{"a kind far off", api.Rec{Kind: math.MaxInt}, api.ErrForm},
		{"a kind far below", api.Rec{Kind: math.MinInt}, api.ErrForm},
		{"a batch with a Series", api.Rec{Kind: api.RBatch, Series: 1, E: one}, api.ErrForm},
		{"a batch with an N", api.Rec{Kind: api.RBatch, N: 1, E: one}, api.ErrForm},
		{"a late batch with an N", api.Rec{Kind: api.RBatch, N: 1, E: entries(0, 3, 1)}, api.ErrForm},
		{"too great a batch", batch(entries(3, 0, api.MaxBatch+1)...), api.ErrMany},
		{"too great a batch of nobody", batch(entries(4, 0, api.MaxBatch+1)...), api.ErrMany},
		{"too great a batch, late", batch(entries(0, 3, api.MaxBatch+1)...), api.ErrMany},
		{"a batch of nobody", batch(entries(api.MaxSeries, 0, 1)...), api.ErrRange},
		{"a batch of nobody, below 0", batch(entries(-1, 0, 1)...), api.ErrRange},
		{"a batch of nobody, far off", batch(entry(math.MaxInt, 0, 0)), api.ErrRange},
		{"of nobody behind a late one", batch(entry(0, 4, 0), entry(4, 0, 0)), api.ErrRange},
		{"T below 0 behind a late one", batch(entry(0, 4, 0), entry(3, -1, 0)), api.ErrRange},
		{"T above all behind a late one", batch(entry(0, 4, 0), entry(3, api.MaxTime+1, 0)), api.ErrRange},
		{"V below all behind a late one", batch(entry(0, 4, 0), entry(3, 0, -api.MaxValue-1)), api.ErrRange},
		{"V above all, late", batch(entry(0, 4, api.MaxValue+1)), api.ErrRange},
		{"a seal with an entry", api.Rec{Kind: api.RSeal, N: 1, E: one}, api.ErrForm},
		{"a seal of nobody with an entry", api.Rec{Kind: api.RSeal, Series: 4, N: 1, E: one}, api.ErrForm},
		{"a seal of nobody", seal(api.MaxSeries, 1), api.ErrRange},
		{"a seal of nobody, below 0", seal(math.MinInt, 1), api.ErrRange},
		{"a seal of less than nothing", seal(2, -1), api.ErrRange},
		{"a seal of far too many", seal(2, math.MaxInt), api.ErrRange},
		{"a merge with an entry", api.Rec{Kind: api.RMerge, Series: 1, E: one}, api.ErrForm},
		{"a merge of nobody", merge(api.MaxSeries, 0), api.ErrRange},
		{"a merge of nobody, below 0", merge(-1, 0), api.ErrRange},
		{"a merge below 0", merge(1, -1), api.ErrRange},
		{"a merge far off", merge(1, math.MaxInt), api.ErrRange},
		{"a drop with an entry", api.Rec{Kind: api.RDrop, E: one}, api.ErrForm},
		{"a drop of a series", api.Rec{Kind: api.RDrop, Series: 1, N: 5}, api.ErrForm},
		{"a drop of a series, below 0", api.Rec{Kind: api.RDrop, Series: 1, N: -1}, api.ErrForm},
		{"a drop below 0", drop(-1), api.ErrRange},
		{"a drop above all", drop(api.MaxTime + 2), api.ErrRange},
	}
}

// refusedRecords may be, but the plain shelf says no.
func refusedRecords() []wrong {
	return []wrong{
		{"a late batch", batch(entry(0, 4, 0)), api.ErrLate},
		{"a batch late behind a block", batch(entry(2, 7, 0)), api.ErrLate},
		{"a fine entry, then a late one", batch(entry(3, 1, 0), entry(0, 4, 0)), api.ErrLate},
		{"a late entry, then a fine one", batch(entry(0, 4, 0), entry(3, 1, 0)), api.ErrLate},
		{"twice the same in a batch", batch(entry(3, 1, 0), entry(3, 1, 0)), api.ErrLate},
		{"a seal of none", seal(1, 0), api.ErrRange},
		{"a seal of one more than there are", seal(1, 5), api.ErrRange},
		{"a seal of an empty head", seal(3, 1), api.ErrRange},
		{"a seal of as many as may be told", seal(1, api.MaxTime+1), api.ErrRange},
		{"a seal of one block too many", seal(2, 1), api.ErrMany},
		{"a seal of none, and one block too many", seal(2, 0), api.ErrRange},
		{"a seal of too many, and one block too many", seal(2, 4), api.ErrRange},
		{"a merge of the last block", merge(1, 2), api.ErrRange},
		{"a merge behind the last block", merge(1, 3), api.ErrRange},
		{"a merge of no blocks", merge(0, 0), api.ErrRange},
		{"a merge of the last of as many as may be", merge(2, api.MaxBlocks-1), api.ErrRange},
		{"a merge of as late as may be told", merge(1, api.MaxTime+1), api.ErrRange},
	}
}

// P10.1, P3: the record's error is told ahead of the shelf's, and with either there is nothing else.
func TestNextRefuses(t *testing.T) {
	s := plain(t)
	before := deep(s)
	for _, c := range append(wrongRecords(), refusedRecords()...) {
		if a := got(store.Next(s, c.r)); !a.refused(c.want) {
			t.Errorf("%s: %v, want %d alone", c.what, a, c.want)
		}
		if !alike(s, before) {
			t.Fatalf("%s: the shelf was %v, is %v", c.what, before, s)
		}
	}
}

// P10.1: a series takes as many points as may be, and not one more, whether they are sealed or not.
func TestNextFillsASeries(t *testing.T) {
	for what, r := range map[string]api.Row{
		"all in the head":  row(t, from(0, api.MaxPoints-2)),
		"all in a block":   row(t, from(0, api.MaxPoints-2), nil),
		"in both of these": row(t, from(0, 20), from(20, api.MaxPoints-22)),
	} {
		s := with(api.Row{}, r)
		two := batch(entries(1, 100, 2)...)
		a := got(store.Next(s, two))
		want := altered(s, func(s *api.Shelf) {
			s.Rows[1].Head = append(s.Rows[1].Head, api.Point{T: 100}, api.Point{T: 101, V: 1})
		})
		if !a.is(want) {
			t.Errorf("%s: %v, want %v", what, a, want)
		}
		if a := got(store.Next(s, batch(entries(1, 100, 3)...))); !a.refused(api.ErrMany) {
			t.Errorf("%s, three: %v, want ErrMany alone", what, a)
		}
		if b := got(store.Next(a.s, two)); !b.refused(api.ErrMany) {
			t.Errorf("%s, two more that are late: %v, want ErrMany alone", what, b)
		}
	}
}

// P10.1: a wrong shelf is told ahead of a wrong record, and of what that record would do.
func TestNextChecksTheShelfFirst(t *testing.T) {
	moved, torn := row(t, from(0, 2), nil), row(t, from(0, 2), nil)
	moved.Blocks[0].To++
	torn.Blocks[0].Bits = append(torn.Blocks[0].Bits, false)
	records := append(wrongRecords(), refusedRecords()...)
	for _, r := range []api.Rec{batch(), batch(entry(0, 5, 1)), seal(1, 1), merge(1, 0), drop(0), drop(api.MaxTime + 1)} {
		records = append(records, wrong{"a fine record", r, api.OK})
	}
	for _, c := range []struct {
		what string
		s    api.Shelf
		want api.Errno
	}{
		{"no rows", api.Shelf{}, api.ErrForm},
		{"a row too few", api.Shelf{Rows: make([]api.Row, api.MaxSeries-1)}, api.ErrForm},
		{"a row too many", api.Shelf{Rows: make([]api.Row, api.MaxSeries+1)}, api.ErrForm},
		{"a moved end", altered(plain(t), func(s *api.Shelf) { s.Rows[3] = moved }), api.ErrForm},
		{"a bit too many", altered(plain(t), func(s *api.Shelf) { s.Rows[3] = torn }), api.ErrTorn},
		{"a block too many", altered(plain(t), func(s *api.Shelf) { s.Rows[3].Blocks = make([]api.Block, api.MaxBlocks+1) }), api.ErrMany},
		{"a point too many", altered(plain(t), func(s *api.Shelf) { s.Rows[3].Head = from(0, api.MaxPoints+1) }), api.ErrMany},
		{"a head that stands still", altered(plain(t), func(s *api.Shelf) { s.Rows[3].Head = make([]api.Point, 2) }), api.ErrLate},
		{"a T below 0", altered(plain(t), func(s *api.Shelf) { s.Rows[3].Head = []api.Point{{T: -1}} }), api.ErrRange},
	} {
		before := deep(c.s)
		for _, r := range records {
			if a := got(store.Next(c.s, r.r)); !a.refused(c.want) {
				t.Errorf("%s, %s: %v, want %d alone", c.what, r.what, a, c.want)
			}
		}
		if !alike(c.s, before) {
			t.Errorf("%s: was %v, is %v", c.what, before, c.s)
		}
	}
}

// P10.1: records make a shelf from nothing on, one after the other.
func TestReplay(t *testing.T) {
	for _, none := range [][]api.Rec{nil, {}} {
		if a := got(store.Replay(none)); !a.is(with()) {
			t.Errorf("Replay of nothing: %v", a)
		}
	}
	one, two := entry(1, 10, -5), entry(2, 3, 4)
	l := []api.Rec{batch(one, two), seal(1, 1), batch(entry(1, 20, 6)), seal(1, 1), merge(1, 0), batch(entry(2, 9, 9)), seal(2, 1), drop(10)}
	early, late := []api.Point{{T: 10, V: -5}}, []api.Point{{T: 20, V: 6}}
	both, head := slices.Concat(early, late), []api.Point{{T: 3, V: 4}}
	more := append(slices.Clone(head), api.Point{T: 9, V: 9})
	for n, want := range []api.Shelf{
		with(),
		with(api.Row{}, row(t, early), row(t, head)),
		with(api.Row{}, row(t, early, nil), row(t, head)),
		with(api.Row{}, row(t, early, late), row(t, head)),
		with(api.Row{}, row(t, early, late, nil), row(t, head)),
		with(api.Row{}, row(t, both, nil), row(t, head)),
		with(api.Row{}, row(t, both, nil), row(t, more)),
		with(api.Row{}, row(t, both, nil), row(t, head, more[1:])),
		with(api.Row{}, row(t, both, nil), row(t, more[1:])),
	} {
		if a := got(store.Replay(l[:n])); !a.is(want) {
			t.Errorf("Replay of %d: %v, want %v", n, a, want)
		}
	}
}

// P10.1: as many records as may be are replayed; one more is told ahead of what is wrong with any of them.
func TestReplayRefusesTooMany(t *testing.T) {
	late := batch(entry(0, 5, 0), entry(0, 5, 0))
	for what, r := range map[string]api.Rec{"fine": drop(0), "wrong": {}, "late": late} {
		for _, n := range []int{api.MaxLog + 1, api.MaxLog + 2, 1000} {
			if a := got(store.Replay(slices.Repeat([]api.Rec{r}, n))); !a.refused(api.ErrMany) {
				t.Errorf("%d %s records: %v, want ErrMany alone", n, what, a)
			}
		}
	}
	full := slices.Repeat([]api.Rec{batch()}, api.MaxLog)
	if a := got(store.Replay(full)); !a.is(with()) {
		t.Errorf("as many records as may be: %v", a)
	}
	full[api.MaxLog-1] = batch(entry(3, 7, 8))
	if a := got(store.Replay(full)); !a.is(with(api.Row{}, api.Row{}, api.Row{}, row(t, []api.Point{{T: 7, V: 8}}))) {
		t.Errorf("the last record that may be: %v", a)
	}
	for want, r := range map[api.Errno]api.Rec{api.ErrForm: {}, api.ErrLate: late, api.ErrRange: seal(0, 1)} {
		full[api.MaxLog-1] = r
		if a := got(store.Replay(full)); !a.refused(want) {
			t.Errorf("the last record that may be, wrong: %v, want %d alone", a, want)
		}
	}
}

// P10.1, P3: the first record that has an error is told, wherever it is, and nothing of those ahead of it is left.
func TestReplayRefuses(t *testing.T) {
	fine := []api.Rec{batch(entries(0, 0, 5)...), seal(0, 2), seal(0, 1), merge(0, 0)}
	for _, c := range []struct {
		what string
		l    []api.Rec
		want api.Errno
	}{
		{"a late batch", append(slices.Clone(fine), fine[0]), api.ErrLate},
		{"a seal of too many", append(slices.Clone(fine), seal(0, 3)), api.ErrRange},
		{"a merge of one block", append(slices.Clone(fine), merge(0, 0)), api.ErrRange},
		{"a seal ahead of its batch", []api.Rec{seal(0, 2), fine[0]}, api.ErrRange},
		{"a merge ahead of its seals", []api.Rec{fine[0], merge(0, 0), seal(0, 1), seal(0, 1)}, api.ErrRange},
		{"a late one ahead of a wrong one", []api.Rec{fine[0], fine[0], {}}, api.ErrLate},
		{"a wrong one ahead of a late one", []api.Rec{fine[0], {}, fine[0]}, api.ErrForm},
		{"a wrong one first", append([]api.Rec{{}}, fine...), api.ErrForm},
		{"one of nobody ahead of a wrong one", []api.Rec{seal(4, 1), {}}, api.ErrRange},
		{"too great a batch ahead of a late one", []api.Rec{fine[0], batch(entries(0, 0, api.MaxBatch+1)...), fine[0]}, api.ErrMany},
		{"one late entry among others", append(slices.Clone(fine), batch(entry(1, 5, 5), entry(0, 4, 0), entry(2, 5, 5))), api.ErrLate},
	} {
		if a := got(store.Replay(c.l)); !a.refused(c.want) {
			t.Errorf("%s: %v, want %d alone", c.what, a, c.want)
		}
	}
	for _, c := range wrongRecords() {
		for at := range len(fine) + 1 {
			l := slices.Insert(slices.Clone(fine), at, c.r)
			if a := got(store.Replay(l)); !a.refused(c.want) {
				t.Errorf("%s, at %d: %v, want %d alone", c.what, at, a, c.want)
			}
		}
	}
}

// P10.1: each block that may be is sealed; one more is when two of them are merged, or some are dropped.
func TestReplayFillsTheBlocks(t *testing.T) {
	l := []api.Rec{batch(entries(3, 0, api.MaxBatch)...)}
	for range api.MaxBlocks {
		l = append(l, seal(3, 1))
	}
	if a := got(store.Replay(append(slices.Clone(l), seal(3, 1)))); !a.refused(api.ErrMany) {
		t.Errorf("a block too many: %v, want ErrMany alone", a)
	}
	for _, r := range []api.Rec{merge(3, 4), drop(1)} {
		a := got(store.Replay(append(slices.Clone(l), r, seal(3, 1))))
		if a.e != api.OK || len(a.s.Rows[3].Blocks) != api.MaxBlocks || len(a.s.Rows[3].Head) != 1 {
			t.Errorf("a block more behind %v: %v", r, a)
		}
	}
}

// dice answers numbers that look thrown and are the same at each run.
func dice(seed uint32) func(n int) int {
	return func(n int) int {
		seed = seed*1664525 + 1013904223
		return int(seed>>8) % n
	}
}

// everything answers the points of all series.
func everything(t *testing.T, s api.Shelf) [api.MaxSeries][]api.Point {
	t.Helper()
	var out [api.MaxSeries][]api.Point
	for i := range out {
		l, e := shelf.All(s, i)
		if e != api.OK {
			t.Fatalf("All of %d of %v: %d", i, s, e)
		}
		out[i] = l
	}
	return out
}

// put answers the points of all batches among records, series by series, without the program.
func put(l []api.Rec) [api.MaxSeries][]api.Point {
	var out [api.MaxSeries][]api.Point
	for _, r := range l {
		for _, x := range r.E {
			out[x.Series] = append(out[x.Series], api.Point{T: x.T, V: x.V})
		}
	}
	return out
}

// thrown answers a record: a batch of points behind all others in time, or a seal, a merge or a drop that may have an error.
func thrown(throw func(int) int, now int) api.Rec {
	switch throw(8) {
	case 0, 1, 2:
		return seal(throw(api.MaxSeries), 1+throw(3))
	case 3, 4:
		return merge(throw(api.MaxSeries), throw(4))
	case 5:
		return drop(throw(now + 1))
	}
	l := make([]api.Entry, throw(6))
	for i := range l {
		l[i] = entry(throw(api.MaxSeries), now+i, throw(2*api.MaxValue+1)-api.MaxValue)
	}
	return batch(l...)
}

// P10.2: whatever is sealed and merged, and whenever, the points are those of all batches, as if there were batches alone.
func TestPointsAreThoseOfAllBatches(t *testing.T) {
	did := map[int]int{}
	for seed := range 40 {
		throw := dice(uint32(seed))
		s := shelf.New()
		var all, batches []api.Rec
		for now := 0; now < 500; now += 10 {
			r := thrown(throw, now)
			if r.Kind == api.RDrop {
				continue
			}
			next, e := store.Next(s, r)
			if e != api.OK {
				continue
			}
			did[r.Kind]++
			s, all = next, append(all, r)
			if r.Kind == api.RBatch {
				batches = append(batches, r)
			}
			if got, want := everything(t, s), put(all); !alike(got, want) {
				t.Fatalf("behind %v: %v, want %v", all, got, want)
			}
		}
		if a := got(store.Replay(all)); !a.is(s) {
			t.Fatalf("Replay of %v: %v, want %v", all, a, s)
		}
		if a := got(store.Replay(batches)); a.e != api.OK || !alike(everything(t, a.s), everything(t, s)) {
			t.Fatalf("Replay of %v: %v, want the points of %v", batches, a, s)
		}
	}
	for _, kind := range []int{api.RBatch, api.RSeal, api.RMerge} {
		if did[kind] < 40 {
			t.Errorf("kind %d was done only %d times", kind, did[kind])
		}
	}
}

// taken answers what a drop must leave: of each series it takes the points of the blocks that end ahead of it, all of them at the front.
func taken(had [api.MaxSeries][]api.Point, s api.Shelf, before int) [api.MaxSeries][]api.Point {
	for i, r := range s.Rows {
		for _, b := range r.Blocks {
			if b.To < before {
				had[i] = had[i][b.N:]
			}
		}
	}
	return had
}

// P10.2: what was dropped is gone and stays so; nothing else goes, and it is the same whether the log is replayed or gone through.
func TestPointsButForWhatWasDropped(t *testing.T) {
	gone, kept := 0, 0
	for seed := range 60 {
		throw := dice(uint32(1000 + seed))
		s := shelf.New()
		var log []api.Rec
		var want [api.MaxSeries][]api.Point
		for now := 0; len(log) < api.MaxLog; now += 10 {
			r := thrown(throw, now)
			next, e := store.Next(s, r)
			if e != api.OK {
				if a := got(store.Replay(append(slices.Clone(log), r))); !a.refused(e) {
					t.Fatalf("Replay of %v and %v: %v, want %d alone", log, r, a, e)
				}
				r, next = batch(), s
			}
			for i, l := range put([]api.Rec{r}) {
				want[i] = append(want[i], l...)
			}
			if r.Kind == api.RDrop {
				before := fmt.Sprint(want)
				if want = taken(want, s, r.N); fmt.Sprint(want) != before {
					gone++
				}
				for _, l := range everything(t, next) {
					kept += len(l)
				}
			}
			s, log = next, append(log, r)
			if got := everything(t, s); !alike(got, want) {
				t.Fatalf("behind %v: %v, want %v", log, got, want)
			}
		}
		if a := got(store.Replay(log)); !a.is(s) {
			t.Fatalf("Replay of %v: %v, want %v", log, a, s)
		}
	}
	if gone < 40 || kept < 40 {
		t.Errorf("drops took something only %d times, and left only %d points", gone, kept)
	}
}

// P10.2: all ways to seal a head and to merge the blocks that come of it have the same points.
func TestAllWaysToSealAndMerge(t *testing.T) {
	const n = 6
	start := batch(entries(2, 11, n)...)
	want := put([]api.Rec{start})
	for cuts := range 1 << n {
		l := []api.Rec{start}
		first := 0
		for i := range n {
			if cuts>>i&1 == 1 {
				l = append(l, seal(2, i+1-first))
				first = i + 1
			}
		}
		for seals := len(l) - 1; seals > 0; seals-- {
			a := got(store.Replay(l))
			if a.e != api.OK || len(a.s.Rows[2].Blocks) != seals || !alike(everything(t, a.s), want) {
				t.Errorf("%v: %v", l, a)
			}
			l = append(l, merge(2, (cuts+seals)%max(seals-1, 1)))
		}
		// The last merge is of one block alone, or of none.
		if len(l) > 1 {
			if a := got(store.Replay(l)); !a.refused(api.ErrRange) {
				t.Errorf("%v: %v, want ErrRange alone", l, a)
			}
		}
	}
}

// scramble writes over all lists of s, and over the room behind them.
func scramble(s api.Shelf) {
	for _, r := range s.Rows {
		for _, b := range r.Blocks {
			for i := range b.Bits[:cap(b.Bits)] {
				b.Bits[:cap(b.Bits)][i] = i%3 == 0
			}
		}
		for i := range r.Blocks[:cap(r.Blocks)] {
			r.Blocks[:cap(r.Blocks)][i] = api.Block{N: -7}
		}
		for i := range r.Head[:cap(r.Head)] {
			r.Head[:cap(r.Head)][i] = api.Point{T: -7, V: -7}
		}
	}
	for i := range s.Rows[:cap(s.Rows)] {
		s.Rows[:cap(s.Rows)][i] = api.Row{Head: make([]api.Point, 7)}
	}
}

// room answers a list with room behind it in which something stands.
func room[E any](l []E, behind E) []E {
	return append(slices.Clone(l), behind, behind, behind)[:len(l)]
}

// roomy answers s with room behind each list.
func roomy(s api.Shelf) api.Shelf {
	out := deep(s)
	for i := range out.Rows {
		r := &out.Rows[i]
		for j := range r.Blocks {
			r.Blocks[j].Bits = room(r.Blocks[j].Bits, true)
		}
		r.Blocks, r.Head = room(r.Blocks, api.Block{N: 77}), room(r.Head, api.Point{T: 77, V: 77})
	}
	out.Rows = room(out.Rows, api.Row{Head: from(77, 1)})
	return out
}

// spread answers s with the room behind its lists as if it were a part of them, in memory of its own.
func spread(s api.Shelf) api.Shelf {
	out := api.Shelf{Rows: slices.Clone(s.Rows[:cap(s.Rows)])}
	for i := range out.Rows {
		r := &out.Rows[i]
		r.Blocks, r.Head = slices.Clone(r.Blocks[:cap(r.Blocks)]), slices.Clone(r.Head[:cap(r.Head)])
		for j := range r.Blocks {
			r.Blocks[j].Bits = slices.Clone(r.Blocks[j].Bits[:cap(r.Blocks[j].Bits)])
		}
	}
	return out
}

// P2: Next only reads the shelf and the record, and keeps none of their memory; its answer shares none with them.
func TestNextIsApart(t *testing.T) {
	for _, r := range []api.Rec{batch(), batch(entry(0, 90, 1), entry(3, 5, 1), entry(0, 91, 1)), seal(1, 2), merge(1, 0), drop(0), drop(13), batch(entry(3, 5, 1), entry(0, 1, 1)), seal(2, 1), {}} {
		s := roomy(plain(t))
		r.E = room(r.E, entry(77, 77, 77))
		shelfBefore, entriesBefore := spread(s), slices.Clone(r.E[:cap(r.E)])
		a := got(store.Next(s, r))
		if !alike(spread(s), shelfBefore) || !slices.Equal(r.E[:cap(r.E)], entriesBefore) {
			t.Errorf("%v: the shelf or the entries changed: %v, %v", r, spread(s), r.E[:cap(r.E)])
		}
		scramble(got(store.Next(s, r)).s)
		if !alike(spread(s), shelfBefore) || !slices.Equal(r.E[:cap(r.E)], entriesBefore) {
			t.Errorf("%v: what was handed in hangs on the answer: %v, %v", r, spread(s), r.E[:cap(r.E)])
		}
		kept := deep(a.s)
		scramble(s)
		clear(r.E[:cap(r.E)])
		if !alike(a.s, kept) {
			t.Errorf("%v: the answer hangs on what was handed in: was %v, is %v", r, kept, a.s)
		}
	}
}

// P2: no two lists of an answer share memory, though those of the shelf do.
func TestListsOfAnAnswerAreApart(t *testing.T) {
	r := row(t, from(10, 3), from(20, 1), from(30, 2), from(50, 4))
	for _, x := range []api.Rec{batch(), batch(entry(0, 90, 1)), seal(0, 2), merge(0, 0), drop(0), drop(13)} {
		a := got(store.Next(with(r, r, r, r), x))
		if a.e != api.OK {
			t.Fatalf("%v: %v", x, a)
		}
		for i := range a.s.Rows {
			rest := api.Shelf{Rows: a.s.Rows[i+1:]}
			before := deep(rest)
			scramble(api.Shelf{Rows: slices.Clone(a.s.Rows[i : i+1])})
			if !alike(rest, before) {
				t.Errorf("%v: the rows behind %d hang on it: were %v, are %v", x, i, before, rest)
			}
		}
	}
}

// P2: Replay only reads the records, and answers memory of its own, each time.
func TestReplayIsApart(t *testing.T) {
	whole := entries(1, 5, 6)
	before := slices.Clone(whole)
	l := room([]api.Rec{batch(whole[:3]...), seal(1, 1), batch(whole[3:5]...), seal(1, 3), drop(6)}, api.Rec{Kind: 77})
	kept := fmt.Sprint(l[:cap(l)])
	a, b := got(store.Replay(l)), got(store.Replay(l))
	if a.e != api.OK || !slices.Equal(whole, before) || fmt.Sprint(l[:cap(l)]) != kept {
		t.Errorf("Replay: %v; the records became %v", a, l[:cap(l)])
	}
	want := deep(a.s)
	scramble(b.s)
	clear(whole)
	clear(l)
	if !alike(a.s, want) {
		t.Errorf("Replay: the answer was %v, is %v", want, a.s)
	}
	scramble(a.s)
	if a := got(store.Replay(nil)); !a.is(with()) {
		t.Errorf("Replay of nothing behind all that: %v", a)
	}
}

package story_test

import (
	"fmt"
	"math"
	"slices"
	"strings"
	"testing"

	"rainbook/api"
	"rainbook/note"
	"rainbook/story"
	"rainbook/world"
)

func entry(series, time, v int) api.Entry { return api.Entry{Series: series, T: time, V: v} }

func batch(l ...api.Entry) api.Happening       { return api.Happening{Kind: api.HBatch, E: l} }
func seal(series, n int) api.Happening         { return api.Happening{Kind: api.HSeal, Series: series, N: n} }
func merge(series, k int) api.Happening        { return api.Happening{Kind: api.HMerge, Series: series, N: k} }
func drop(before int) api.Happening            { return api.Happening{Kind: api.HDrop, N: before} }
func open(reader int) api.Happening            { return api.Happening{Kind: api.HOpen, N: reader} }
func closing(reader int) api.Happening         { return api.Happening{Kind: api.HClose, N: reader} }
func tear(n int, l ...api.Entry) api.Happening { return api.Happening{Kind: api.HTear, N: n, E: l} }

var (
	crash = api.Happening{Kind: api.HCrash}
	boot  = api.Happening{Kind: api.HBoot}
)

// run answers the world to which all of l has happened without an error.
func run(t *testing.T, w api.World, l ...api.Happening) api.World {
	t.Helper()
	out, said, e := world.Run(w, l)
	if e != api.OK || slices.ContainsFunc(said, func(e api.Errno) bool { return e != api.OK }) {
		t.Fatalf("Run of %v on %s: %v, %d", l, told(w), said, e)
	}
	return out
}

// plain answers a world of eight records; log is what they are written as.
func plain(t *testing.T) api.World {
	t.Helper()
	return run(t, world.New(),
		batch(entry(1, 10, -5), entry(2, 3, 4)), open(1), batch(entry(1, 20, 6)), seal(1, 1), seal(1, 1), merge(1, 0), open(2),
		batch(entry(1, 30, 7), entry(1, 31, 8)), drop(20), drop(21),
	)
}

const log = "batch 1 10 -5 2 3 4\nbatch 1 20 6\nseal 1 1\nseal 1 1\nmerge 1 0\nbatch 1 30 7 1 31 8\ndrop 20\ndrop 21\n"

// plainAt answers what the plain world has of each series behind each of its records.
func plainAt() [][api.MaxSeries][]api.Point {
	one := []api.Point{{T: 10, V: -5}, {T: 20, V: 6}, {T: 30, V: 7}, {T: 31, V: 8}}
	two := []api.Point{{T: 3, V: 4}}
	return [][api.MaxSeries][]api.Point{
		{}, {1: one[:1], 2: two}, {1: one[:2], 2: two}, {1: one[:2], 2: two}, {1: one[:2], 2: two}, {1: one[:2], 2: two},
		{1: one, 2: two}, {1: one, 2: two}, {1: one[2:], 2: two},
	}
}

// down answers a world without power.
func down(safe, wait string) api.World {
	return api.World{S: api.Shelf{Rows: make([]api.Row, api.MaxSeries)}, D: api.Disk{Safe: []byte(safe), Wait: []byte(wait)}, Readers: []int{-1, -1, -1}}
}

// idle answers the lines of n records that change nothing.
func idle(n int) string { return strings.Repeat("batch\n", n) }

// deep answers w in memory of its own, without the program.
func deep(w api.World) api.World {
	w.S.Rows = slices.Clone(w.S.Rows)
	for i := range w.S.Rows {
		r := &w.S.Rows[i]
		r.Blocks, r.Head = slices.Clone(r.Blocks), slices.Clone(r.Head)
		for j := range r.Blocks {
			r.Blocks[j].Bits = slices.Clone(r.Blocks[j].Bits)
		}
	}
	w.D = api.Disk{Safe: slices.Clone(w.D.Safe), Wait: slices.Clone(w.D.Wait)}
	w.Readers = slices.Clone(w.Readers)
	return w
}

// altered answers w with one change, in memory of its own.
func altered(w api.World, change func(*api.World)) api.World {
	out := deep(w)
	change(&out)
	return out
}

// told answers a world as one can read it; a list of nothing is told alike, nil or not.
func told(w api.World) string {
	return fmt.Sprintf("{%v %q %q %v %v}", w.S, w.D.Safe, w.D.Wait, w.Up, w.Readers)
}

// P12.1: as many as there are records, those that wait wholly written too.
func TestVersions(t *testing.T) {
	most := log + idle(api.MaxLog-8)
	for _, c := range []struct {
		what string
		w    api.World
		want int
	}{
		{"nothing", world.New(), 0},
		{"one record", run(t, world.New(), batch(entry(0, 5, 5))), 1},
		{"one record of nothing", run(t, world.New(), batch()), 1},
		{"a drop of nothing", run(t, world.New(), drop(0)), 1},
		{"readers alone", run(t, world.New(), open(0), open(1), closing(0)), 0},
		{"plain", plain(t), 8},
		{"plain, readers come and go", run(t, plain(t), closing(1), open(0)), 8},
		{"plain, the power goes", run(t, plain(t), crash), 8},
		{"plain, behind a boot", run(t, plain(t), crash, boot), 8},
		{"plain, a batch is torn", run(t, plain(t), tear(5, entry(0, 5, 5))), 8},
		{"plain, a batch is torn behind its last byte", run(t, plain(t), tear(99, entry(0, 5, 5))), 9},
		{"plain, a batch is torn, behind a boot", run(t, plain(t), tear(5, entry(0, 5, 5)), boot), 8},
		{"as many as may be", run(t, down(most, ""), boot), api.MaxLog},
		{"as many as may be, one is torn behind its last byte", run(t, down(most, ""), boot, tear(99)), api.MaxLog},

		{"down", down("", ""), 0},
		{"down, with records", down(log, ""), 8},
		{"down, one waits", down(log, "drop 7\n"), 9},
		{"down, all wait", down("", log), 8},
		{"down, half of one waits", down(log, "drop 7"), 8},
		{"down, one and a half wait", down(log, "drop 7\ndrop"), 9},
		{"down, one that waits isn't written so", down(log, "drop 07\ndrop 7\n"), 8},
		{"down, the second that waits may not be", down(log, "drop 7\nseal 4 1\ndrop 7\n"), 9},
		{"down, something waits", down(log, "\n\x00\xff"), 8},
		{"down, as many as may be", down(most, ""), api.MaxLog},
		{"down, as many as may be, two wait", down(most, "drop 7\ndrop 8\n"), api.MaxLog},
		{"down, room for one, two wait", down(most[:len(most)-6], "drop 7\ndrop 8\n"), api.MaxLog},
		{"down, too many wait", down("", most+log), api.MaxLog},
		{"down, senseless records", down("merge 3 7\nbatch 1 5 5 1 5 5\n", ""), 2},
		{"down, senseless records wait", down(log, "merge 3 7\nbatch 1 5 5 1 5 5\n"), 10},
	} {
		before := told(c.w)
		if n, e := story.Versions(c.w); n != c.want || e != api.OK {
			t.Errorf("Versions, %s: %d %d, want %d", c.what, n, e, c.want)
		}
		if told(c.w) != before {
			t.Errorf("Versions, %s: %s became %s", c.what, before, told(c.w))
		}
	}
}

// P12.1: all points of a series behind so many records, whether the world is up or not.
func TestAt(t *testing.T) {
	want := plainAt()
	w := plain(t)
	if string(w.D.Safe) != log {
		t.Fatalf("the plain world: %s", told(w))
	}
	half := log[:len(log)/2]
	for what, w := range map[string]api.World{
		"up": w, "down": down(log, ""), "all waits": down("", log), "half waits": down(half[:strings.LastIndex(half, "\n")+1], log[strings.LastIndex(half, "\n")+1:]),
		"booted": run(t, w, crash, boot), "torn": run(t, w, tear(7, entry(1, 50, 0))), "one reader": run(t, w, closing(1), open(0)),
	} {
		before := told(w)
		for version := range want {
			for series, points := range want[version] {
				if l, e := story.At(w, version, series); !slices.Equal(l, points) || e != api.OK {
					t.Errorf("At %d of %d, %s: %v %d, want %v", version, series, what, l, e, points)
				}
			}
		}
		if told(w) != before {
			t.Errorf("At, %s: %s became %s", what, before, told(w))
		}
	}
}

// P12.1: the last version is what is on the shelf; the first one is nothing, whatever there is.
func TestAtTheEnds(t *testing.T) {
	l := make([]api.Entry, api.MaxBatch)
	for i := range l {
		l[i] = entry(3, i, -i)
	}
	w := run(t, world.New(), batch(l...))
	for range api.MaxLog - 1 {
		w = run(t, w, drop(api.MaxTime+1))
	}
	for version := range api.MaxLog + 1 {
		points, e := story.At(w, version, 3)
		if want := min(version, 1) * api.MaxBatch; len(points) != want || e != api.OK {
			t.Errorf("At %d: %v %d, want %d points", version, points, e, want)
		}
	}
	if points, e := story.At(w, api.MaxLog+1, 3); points != nil || e != api.ErrLate {
		t.Errorf("At behind a full log: %v %d, want ErrLate alone", points, e)
	}
	for version := range 2 {
		points, e := story.At(run(t, world.New(), open(0), batch()), version, 0)
		if len(points) != 0 || e != api.OK {
			t.Errorf("At %d of a batch of nothing: %v %d", version, points, e)
		}
	}
}

// P12.1, P3: no such version, then what is wrong with so many records, then no such series; nothing with it.
func TestAtRefuses(t *testing.T) {
	w := plain(t)
	waits := down(log, "batch 0 1 1\nbat")
	senseless := down("batch 0 5 5\nbatch 1 5 5\nbatch 0 5 6\n", "seal 2 1\n")
	far := []int{math.MinInt, math.MaxInt}
	for _, c := range []struct {
		what             string
		w                api.World
		versions, series []int
		want             api.Errno
	}{
		{"no such version", w, append(far, -1, 9, 10), []int{0, 1, 3}, api.ErrLate},
		{"no such version, and no such series", w, append(far, -1, 9), append(far, -1, 4), api.ErrLate},
		{"nothing has no version 1", world.New(), append(far, -1, 1), []int{0, -1, 4}, api.ErrLate},
		{"down, nothing has no version 1", down("", ""), append(far, -1, 1), []int{0, -1, 4}, api.ErrLate},
		{"down, no such version", waits, append(far, -1, 10), []int{0, 3, 4}, api.ErrLate},
		{"down, no such version of senseless records", senseless, append(far, -1, 5), []int{0, 4}, api.ErrLate},
		{"down, a late record", senseless, []int{3, 4}, []int{0, 1, 3}, api.ErrLate},
		{"down, a late record, and no such series", senseless, []int{3, 4}, append(far, -1, 4), api.ErrLate},
		{"down, a seal of too many", down("batch 0 5 5\nseal 0 2\nbatch 0 5 6\n", ""), []int{2, 3}, append(far, 0, 3, -1, 4), api.ErrRange},
		{"down, a seal of too many waits", down("batch 0 5 5\n", "seal 0 2\nbatch 0 5 6\n"), []int{2, 3}, append(far, 0, 3, -1, 4), api.ErrRange},
		{"down, a merge of no blocks", down("", "merge 3 7\nbatch 0 5 5 0 5 5\n"), []int{1, 2}, append(far, 0, 3, -1, 4), api.ErrRange},
		{"no such series", w, []int{0, 1, 8}, append(far, -1, 4, 5), api.ErrWho},
		{"no such series of nothing", world.New(), []int{0}, append(far, -1, 4), api.ErrWho},
		{"down, no such series", waits, []int{0, 8, 9}, append(far, -1, 4), api.ErrWho},
		{"down, no such series ahead of a late record", senseless, []int{0, 1, 2}, append(far, -1, 4), api.ErrWho},
	} {
		before := told(c.w)
		for _, version := range c.versions {
			for _, series := range c.series {
				if l, e := story.At(c.w, version, series); l != nil || e != c.want {
					t.Errorf("At %d of %d, %s: %v %d, want %d alone", version, series, c.what, l, e, c.want)
				}
			}
		}
		if told(c.w) != before {
			t.Errorf("At, %s: %s became %s", c.what, before, told(c.w))
		}
	}
}

// P12.1: senseless records are nothing to the versions ahead of them.
func TestAtAheadOfSenselessRecords(t *testing.T) {
	w := down("batch 0 5 5\nbatch 0 6 6\nbatch 0 6 7\n", "merge 3 7\n")
	for version, want := range [][]api.Point{nil, {{T: 5, V: 5}}, {{T: 5, V: 5}, {T: 6, V: 6}}} {
		if l, e := story.At(w, version, 0); !slices.Equal(l, want) || e != api.OK {
			t.Errorf("At %d: %v %d, want %v", version, l, e, want)
		}
	}
	if l, e := story.At(w, 4, 0); l != nil || e != api.ErrLate {
		t.Errorf("At the record behind a late one: %v %d, want ErrLate alone", l, e)
	}
}

// P12.1, P3: both say Check's error ahead of any of their own, and nothing with it.
func TestCheckIsFirst(t *testing.T) {
	up := func(change func(*api.World)) api.World { return altered(plain(t), change) }
	off := func(change func(*api.World)) api.World { return altered(down(log, "drop 7\n"), change) }
	for _, c := range []struct {
		what string
		w    api.World
		want api.Errno
	}{
		{"nothing", api.World{}, api.ErrForm},
		{"nothing, up", api.World{Up: true}, api.ErrForm},
		{"a torn line", up(func(w *api.World) { w.D.Safe = []byte(log + "drop 2") }), api.ErrTorn},
		{"no record", up(func(w *api.World) { w.D.Safe = []byte("\n") }), api.ErrText},
		{"a record that may not be", up(func(w *api.World) { w.D.Safe = []byte(log + "seal 4 1\n") }), api.ErrRange},
		{"a record too many", up(func(w *api.World) { w.D.Safe = []byte(idle(api.MaxLog + 1)) }), api.ErrMany},
		{"a record waits", up(func(w *api.World) { w.D.Wait = []byte("drop 7\n") }), api.ErrForm},
		{"a late record", up(func(w *api.World) { w.D.Safe = []byte(log + "batch 1 31 0\n") }), api.ErrLate},
		{"a seal of too many", up(func(w *api.World) { w.D.Safe = []byte(log + "seal 1 3\n") }), api.ErrRange},
		{"another shelf", up(func(w *api.World) { w.S.Rows[1].Head[0].V++ }), api.ErrForm},
		{"no shelf", up(func(w *api.World) { w.S = api.Shelf{} }), api.ErrForm},
		{"a reader too few", up(func(w *api.World) { w.Readers = w.Readers[:2] }), api.ErrForm},
		{"a reader below all", up(func(w *api.World) { w.Readers[0] = -2 }), api.ErrRange},
		{"a reader behind all", up(func(w *api.World) { w.Readers[2] = 9 }), api.ErrRange},
		{"down, a torn line", off(func(w *api.World) { w.D.Safe = []byte("drop 2") }), api.ErrTorn},
		{"down, no record", off(func(w *api.World) { w.D.Safe = []byte(log + "drop 02\n") }), api.ErrText},
		{"down, too much waits", off(func(w *api.World) { w.D.Wait = make([]byte, api.MaxText) }), api.ErrMany},
		{"down, a shelf with points", off(func(w *api.World) { w.S = plain(t).S }), api.ErrForm},
		{"down, a reader", off(func(w *api.World) { w.Readers[1] = 0 }), api.ErrRange},
		{"down, a reader too many, and senseless records", off(func(w *api.World) { w.D.Safe, w.Readers = []byte(log+log), make([]int, 4) }), api.ErrForm},
	} {
		before := told(c.w)
		if n, e := story.Versions(c.w); n != 0 || e != c.want {
			t.Errorf("Versions, %s: %d %d, want %d alone", c.what, n, e, c.want)
		}
		for _, version := range []int{math.MinInt, -1, 0, 1, 8, 9, 10, math.MaxInt} {
			for _, series := range []int{math.MinInt, -1, 0, 1, 4, math.MaxInt} {
				if l, e := story.At(c.w, version, series); l != nil || e != c.want {
					t.Errorf("At %d of %d, %s: %v %d, want %d alone", version, series, c.what, l, e, c.want)
				}
			}
		}
		if told(c.w) != before {
			t.Errorf("%s: %s became %s", c.what, before, told(c.w))
		}
	}
}

// room answers a list with room behind it in which something stands.
func room[E any](l []E, behind E) []E {
	return append(slices.Clone(l), behind, behind, behind)[:len(l)]
}

// roomy answers w with room behind each list.
func roomy(w api.World) api.World {
	out := deep(w)
	for i := range out.S.Rows {
		r := &out.S.Rows[i]
		for j := range r.Blocks {
			r.Blocks[j].Bits = room(r.Blocks[j].Bits, true)
		}
		r.Blocks, r.Head = room(r.Blocks, api.Block{N: 77}), room(r.Head, api.Point{T: 77, V: 77})
	}
	out.S.Rows = room(out.S.Rows, api.Row{Head: []api.Point{{T: 77}}})
	out.D = api.Disk{Safe: room(out.D.Safe, 'r'), Wait: room(out.D.Wait, 'r')}
	out.Readers = room(out.Readers, 77)
	return out
}

// spread answers w with the room behind its lists as if it were a part of them, in memory of its own.
func spread(w api.World) api.World {
	rows := slices.Clone(w.S.Rows[:cap(w.S.Rows)])
	for i := range rows {
		r := &rows[i]
		r.Blocks, r.Head = slices.Clone(r.Blocks[:cap(r.Blocks)]), r.Head[:cap(r.Head)]
		for j := range r.Blocks {
			r.Blocks[j].Bits = r.Blocks[j].Bits[:cap(r.Blocks[j].Bits)]
		}
	}
	d := api.Disk{Safe: w.D.Safe[:cap(w.D.Safe)], Wait: w.D.Wait[:cap(w.D.Wait)]}
	return deep(api.World{S: api.Shelf{Rows: rows}, D: d, Up: w.Up, Readers: w.Readers[:cap(w.Readers)]})
}

// scramble writes over all lists of w that have something to tell, and over the room behind them.
func scramble(w api.World) {
	for _, r := range w.S.Rows {
		for _, b := range r.Blocks {
			clear(b.Bits[:cap(b.Bits)])
		}
		clear(r.Blocks[:cap(r.Blocks)])
		clear(r.Head[:cap(r.Head)])
	}
	clear(w.S.Rows[:cap(w.S.Rows)])
	clear(w.D.Safe[:cap(w.D.Safe)])
	clear(w.D.Wait[:cap(w.D.Wait)])
	clear(w.Readers[:cap(w.Readers)])
}

// P2: what is handed in is only read, the room behind it, too; what At answers is memory of its own.
func TestAnswersAreApart(t *testing.T) {
	for what, w := range map[string]api.World{"up": plain(t), "in blocks": run(t, plain(t), seal(1, 1), seal(2, 1)), "down": down(log, ""), "waiting": down(log[:20], log[20:]), "wrong": {Up: true}} {
		in := roomy(w)
		before := told(spread(in))
		story.Versions(in)
		for version := -1; version <= 9; version++ {
			for series := -1; series <= api.MaxSeries; series++ {
				a, _ := story.At(in, version, series)
				b, _ := story.At(in, version, series)
				want := slices.Clone(a)
				clear(b[:cap(b)])
				if told(spread(in)) != before || !slices.Equal(a, want) {
					t.Fatalf("At %d of %d, %s: what was handed in, or answered ahead, hangs on the answer: %s, %v", version, series, what, told(spread(in)), a)
				}
				other := roomy(w)
				a, _ = story.At(other, version, series)
				scramble(other)
				if !slices.Equal(a, want) {
					t.Errorf("At %d of %d, %s: the answer hangs on what was handed in: %v, want %v", version, series, what, a, want)
				}
			}
		}
	}
}

// state answers all points of all series at a version, as a text.
func state(t *testing.T, w api.World, version int) string {
	t.Helper()
	var out [api.MaxSeries][]api.Point
	for series := range out {
		l, e := story.At(w, version, series)
		if e != api.OK {
			t.Fatalf("At %d of %d on %s: %d", version, series, told(w), e)
		}
		out[series] = l
	}
	return fmt.Sprint(out)
}

// history answers the states of all versions, the first one first.
func history(t *testing.T, w api.World) []string {
	t.Helper()
	n, e := story.Versions(w)
	if e != api.OK {
		t.Fatalf("Versions of %s: %d", told(w), e)
	}
	var out []string
	for version := range n + 1 {
		out = append(out, state(t, w, version))
	}
	return out
}

// sight answers all that a reader sees, as state does.
func sight(t *testing.T, w api.World, reader int) string {
	t.Helper()
	var out [api.MaxSeries][]api.Point
	for series := range out {
		l, e := world.Read(w, reader, series, 0, api.MaxTime+1)
		if e != api.OK {
			t.Fatalf("Read of %d on %s: %d", reader, told(w), e)
		}
		out[series] = l
	}
	return fmt.Sprint(out)
}

// P12.2: wherever a batch is torn, all of its entries are there or none of them, at once and behind each boot; all versions ahead of it are as they were.
func TestATornBatch(t *testing.T) {
	l := []api.Entry{entry(0, 5, 8), entry(1, 32, -9), entry(1, 40, 100), entry(3, 0, 0)}
	const line = "batch 0 5 8 1 32 -9 1 40 100 3 0 0\n"
	was := history(t, plain(t))
	whole := append(slices.Clone(was), "[[{5 8}] [{30 7} {31 8} {32 -9} {40 100}] [{3 4}] [{0 0}]]")
	for n := -2; n <= len(line)+2; n++ {
		want := was
		if n >= len(line) {
			want = whole
		}
		torn := run(t, plain(t), tear(n, l...))
		for what, then := range map[string][]api.Happening{"down": nil, "booted": {boot}, "down again": {boot, crash}, "booted again": {boot, tear(3, entry(2, 9, 9)), boot}} {
			if got := history(t, run(t, torn, then...)); !slices.Equal(got, want) {
				t.Errorf("torn at %d, %s: %q, want %q", n, what, got, want)
			}
		}
	}
	full := run(t, down(log+idle(api.MaxLog-8), ""), boot)
	torn := run(t, full, tear(len(line), l...))
	if was := history(t, full); !slices.Equal(history(t, torn), was) || !slices.Equal(history(t, run(t, torn, boot)), was) {
		t.Errorf("a batch too many, wholly written: %q, want %q", history(t, torn), was)
	}
}

// P12.2: what was put stays as it was put: sealing, merging and the power change no points, and a drop takes none but whole blocks ahead of its time, and none of the versions ahead of it.
func TestWhatWasPutStays(t *testing.T) {
	w := run(t, world.New(), batch(entry(0, 1, 7), entry(0, 2, -7)), batch(entry(0, 5, 1000000), entry(2, 5, -1000000)))
	put := "[[{1 7} {2 -7} {5 1000000}] [] [{5 -1000000}] []]"
	was := history(t, w)
	for _, c := range []struct {
		x    api.Happening
		want string
	}{
		{seal(0, 1), put}, {seal(0, 1), put}, {crash, put}, {boot, put}, {merge(0, 0), put}, {seal(2, 1), put}, {open(1), put}, {drop(2), put},
		{drop(3), "[[{5 1000000}] [] [{5 -1000000}] []]"}, {drop(6), "[[{5 1000000}] [] [] []]"}, {crash, "[[{5 1000000}] [] [] []]"}, {boot, "[[{5 1000000}] [] [] []]"},
		{drop(api.MaxTime + 1), "[[{5 1000000}] [] [] []]"}, {batch(entry(2, 1, 3)), "[[{5 1000000}] [] [{1 3}] []]"},
	} {
		w = run(t, w, c.x)
		now := history(t, w)
		if now[len(now)-1] != c.want || !slices.Equal(now[:len(was)], was) {
			t.Errorf("behind %v: %q, want %q and %s", c.x, now, was, c.want)
		}
		was = now
	}
}

// P12.2: a reader sees the version that it was opened at, whatever happens, till it is closed; by the power it is closed, and the version is still what it was.
func TestAReaderSeesAVersion(t *testing.T) {
	w := run(t, world.New(), open(0), batch(entry(1, 5, 1), entry(2, 5, 2)), open(1), seal(1, 1), batch(entry(1, 6, 3)), open(2))
	want := []string{"[[] [] [] []]", "[[] [{5 1}] [{5 2}] []]", "[[] [{5 1} {6 3}] [{5 2}] []]"}
	versions := []int{0, 1, 3}
	for _, x := range []api.Happening{seal(1, 1), merge(1, 0), drop(7), batch(entry(1, 7, 4)), batch(), seal(2, 1), drop(99)} {
		w = run(t, w, x)
		for reader, version := range versions {
			if a, b := sight(t, w, reader), state(t, w, version); a != want[reader] || b != want[reader] {
				t.Errorf("behind %v: reader %d sees %s, version %d is %s, want %s", x, reader, a, version, b, want[reader])
			}
		}
	}
	for _, l := range [][]api.Happening{{crash}, {crash, boot}, {tear(9, entry(0, 9, 9))}, {tear(99, entry(0, 9, 9)), boot}} {
		v := run(t, w, l...)
		for reader, version := range versions {
			if got := state(t, v, version); got != want[reader] {
				t.Errorf("behind %v: version %d is %s, want %s", l, version, got, want[reader])
			}
		}
	}
}

// dice answers numbers that look thrown and are the same at each run.
func dice(seed uint32) func(n int) int {
	return func(n int) int {
		seed = seed*1664525 + 1013904223
		return int(seed>>8) % n
	}
}

// thrown answers a happening, of which many have an error.
func thrown(throw func(int) int, now int) api.Happening {
	switch throw(24) {
	case 0, 1, 2, 3, 4, 5:
		return seal(throw(3), 1+throw(2))
	case 6, 7, 8, 9:
		return merge(throw(3), throw(2))
	case 10:
		return drop(throw(now + 1))
	case 11, 12:
		return open(throw(api.MaxReaders + 1))
	case 13:
		return closing(throw(api.MaxReaders+2) - 1)
	case 14:
		return []api.Happening{crash, {Kind: 10}}[throw(2)]
	case 15, 16, 17:
		return boot
	}
	l := make([]api.Entry, throw(4))
	for i := range l {
		l[i] = entry(throw(3), now+i-throw(2), throw(2*api.MaxValue+1)-api.MaxValue)
	}
	if throw(5) == 0 {
		return tear(throw(60)-5, l...)
	}
	return batch(l...)
}

// A row as lists of points: one of each block, and the head.
type row struct {
	blocks [][]api.Point
	head   []api.Point
}

// model keeps what a world should be as lists of points, without the program: each version as it was when it came to be.
type model struct {
	rows     [api.MaxSeries]row
	versions []string
	readers  [api.MaxReaders]string
}

// keep makes of the rows the next version.
func (m *model) keep() {
	var out [api.MaxSeries][]api.Point
	for i, r := range m.rows {
		out[i] = append(slices.Concat(r.blocks...), r.head...)
	}
	m.versions = append(m.versions, fmt.Sprint(out))
}

func (m *model) put(l []api.Entry) {
	for _, x := range l {
		r := &m.rows[x.Series]
		r.head = append(r.head, api.Point{T: x.T, V: x.V})
	}
}

// tear puts a batch if all bytes of its line were written, and there is room for it.
func (m *model) tear(x api.Happening) {
	m.readers = [api.MaxReaders]string{}
	if text, _ := note.Print(api.Rec{Kind: api.RBatch, E: x.E}); x.N > len(text) && len(m.versions) <= api.MaxLog {
		m.put(x.E)
		m.keep()
	}
}

// do takes a happening that had no error.
func (m *model) do(x api.Happening) {
	r := &m.rows[max(0, min(x.Series, api.MaxSeries-1))]
	switch x.Kind {
	case api.HBatch:
		m.put(x.E)
	case api.HSeal:
		r.blocks, r.head = append(r.blocks, r.head[:x.N:x.N]), r.head[x.N:]
	case api.HMerge:
		one := slices.Concat(r.blocks[x.N], r.blocks[x.N+1])
		r.blocks = slices.Concat(r.blocks[:x.N], [][]api.Point{one}, r.blocks[x.N+2:])
	case api.HDrop:
		for i := range m.rows {
			m.rows[i].blocks = slices.DeleteFunc(slices.Clone(m.rows[i].blocks), func(l []api.Point) bool { return l[len(l)-1].T < x.N })
		}
	case api.HOpen:
		m.readers[x.N] = m.versions[len(m.versions)-1]
	case api.HClose:
		m.readers[x.N] = ""
	case api.HCrash:
		m.readers = [api.MaxReaders]string{}
	case api.HTear:
		m.tear(x)
	}
	if x.Kind <= api.HDrop {
		m.keep()
	}
}

// holds tells whether w is what m says: how many versions there are, some of them and the last one, or all, and what each open reader sees.
func (m *model) holds(t *testing.T, w api.World, some ...int) bool {
	t.Helper()
	n, e := story.Versions(w)
	if e != api.OK || n != len(m.versions)-1 {
		return false
	}
	for _, version := range append(some, n) {
		if state(t, w, version) != m.versions[version] {
			return false
		}
	}
	for reader, want := range m.readers {
		if want != "" && sight(t, w, reader) != want {
			return false
		}
	}
	return true
}

// P12.2: on long walks from New on, whenever the power goes, each version stays what it was when it came to be, and each reader sees what it saw.
func TestLongWalks(t *testing.T) {
	did, whole, took := map[int]int{}, 0, 0
	for seed := range 40 {
		throw := dice(uint32(seed))
		w, m := world.New(), &model{}
		m.keep()
		var script []api.Happening
		for now := 5; len(script) < api.MaxScript; now += 5 {
			x := thrown(throw, now)
			script = append(script, x)
			next, e := world.Do(w, x)
			if e == api.OK {
				was, last := len(m.versions), m.versions[len(m.versions)-1]
				did[x.Kind]++
				m.do(x)
				w = next
				if x.Kind == api.HTear {
					whole += len(m.versions) - was
				}
				if x.Kind == api.HDrop && m.versions[was] != last {
					took++
				}
			}
			if !m.holds(t, w, throw(len(m.versions))) {
				t.Fatalf("behind %v: %s, want %v", script, told(w), *m)
			}
		}
		for _, v := range []api.World{w, run(t, w, map[bool]api.Happening{true: crash, false: boot}[w.Up])} {
			if got := history(t, v); !slices.Equal(got, m.versions) {
				t.Fatalf("behind %v: %q, want %q", script, got, m.versions)
			}
		}
	}
	for kind := api.HBatch; kind <= api.HTear; kind++ {
		if did[kind] < 40 {
			t.Errorf("kind %d was done only %d times", kind, did[kind])
		}
	}
	if whole < 20 || whole > did[api.HTear]-20 || took < 20 {
		t.Errorf("of %d torn batches %d were wholly written, and %d drops took points", did[api.HTear], whole, took)
	}
}

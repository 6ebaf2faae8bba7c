package world_test

import (
	"fmt"
	"math"
	"reflect"
	"slices"
	"strings"
	"testing"

	"rainbook/api"
	"rainbook/block"
	"rainbook/note"
	"rainbook/shelf"
	"rainbook/store"
	"rainbook/world"
)

// row answers a row of one block of each list but the last one, which is its Head.
func row(t *testing.T, l ...[]api.Point) api.Row {
	t.Helper()
	var out api.Row
	for _, part := range l[:len(l)-1] {
		b, e := block.Make(part)
		if e != api.OK {
			t.Fatalf("Make(%v): %d", part, e)
		}
		out.Blocks = append(out.Blocks, b)
	}
	out.Head = slices.Clone(l[len(l)-1])
	return out
}

// with answers a shelf of nothing but the rows that are told, from series 0 on.
func with(rows ...api.Row) api.Shelf {
	out := api.Shelf{Rows: make([]api.Row, api.MaxSeries)}
	copy(out.Rows, rows)
	return out
}

// log is what the plain world has written, line by line; plainShelf is what that makes.
const log = "batch 1 10 -5 2 3 4\nbatch 1 20 6\nseal 1 1\nseal 1 1\nbatch 1 30 7 1 31 8\n"

func plainShelf(t *testing.T) api.Shelf {
	t.Helper()
	one, two := []api.Point{{T: 10, V: -5}}, []api.Point{{T: 20, V: 6}}
	return with(api.Row{}, row(t, one, two, []api.Point{{T: 30, V: 7}, {T: 31, V: 8}}), row(t, []api.Point{{T: 3, V: 4}}))
}

// plain answers a world that is up, with five records, and one reader of three closed.
func plain(t *testing.T) api.World {
	t.Helper()
	return api.World{S: plainShelf(t), D: api.Disk{Safe: []byte(log)}, Up: true, Readers: []int{-1, 2, 5}}
}

// down answers a world without power.
func down(safe, wait string) api.World {
	return api.World{S: with(), D: api.Disk{Safe: []byte(safe), Wait: []byte(wait)}, Readers: []int{-1, -1, -1}}
}

// idle answers the lines of n records that change nothing.
func idle(n int) string { return strings.Repeat("batch\n", n) }

// full answers a world with as many records as may be.
func full(t *testing.T) api.World {
	t.Helper()
	w := plain(t)
	w.D.Safe = []byte(log + idle(api.MaxLog-5))
	return w
}

func deepShelf(s api.Shelf) api.Shelf {
	out := api.Shelf{Rows: slices.Clone(s.Rows)}
	for i := range out.Rows {
		r := &out.Rows[i]
		r.Blocks, r.Head = slices.Clone(r.Blocks), slices.Clone(r.Head)
		for j := range r.Blocks {
			r.Blocks[j].Bits = slices.Clone(r.Blocks[j].Bits)
		}
	}
	return out
}

// deep answers w in memory of its own, without the program.
func deep(w api.World) api.World {
	w.S = deepShelf(w.S)
	w.D = api.Disk{Safe: slices.Clone(w.D.Safe), Wait: slices.Clone(w.D.Wait)}
	w.Readers = slices.Clone(w.Readers)
	return w
}

// altered answers w with one change, in memory of its own.
func altered(w api.World, change func(*api.World)) api.World {
	out := deep(w)
	change(&out)
	return out
}

// alike holds all fields against each other, without the program; a list of nothing is printed alike, nil or not.
func alike(a, b any) bool { return fmt.Sprint(a) == fmt.Sprint(b) }

// told answers a world as one can read it.
func told(w api.World) string {
	return fmt.Sprintf("{%v %q %q %v %v}", w.S, w.D.Safe, w.D.Wait, w.Up, w.Readers)
}

func isZero(x any) bool { return reflect.ValueOf(x).IsZero() }

func entry(series, time, v int) api.Entry { return api.Entry{Series: series, T: time, V: v} }

func batch(l ...api.Entry) api.Happening       { return api.Happening{Kind: api.HBatch, E: l} }
func seal(series, n int) api.Happening         { return api.Happening{Kind: api.HSeal, Series: series, N: n} }
func merge(series, k int) api.Happening        { return api.Happening{Kind: api.HMerge, Series: series, N: k} }
func drop(before int) api.Happening            { return api.Happening{Kind: api.HDrop, N: before} }
func open(reader int) api.Happening            { return api.Happening{Kind: api.HOpen, N: reader} }
func closing(reader int) api.Happening         { return api.Happening{Kind: api.HClose, N: reader} }
func tear(n int, l ...api.Entry) api.Happening { return api.Happening{Kind: api.HTear, N: n, E: l} }

var (
	crash = api.Happening{Kind: api.HCrash}
	boot  = api.Happening{Kind: api.HBoot}
)

// junk answers x with something in each field that its kind has no use for.
func junk(x api.Happening) api.Happening {
	switch x.Kind {
	case api.HBatch:
		x.Series, x.N = 77, -77
	case api.HSeal, api.HMerge:
		x.E = make([]api.Entry, 77)
	case api.HTear:
		x.Series = 77
	case api.HCrash, api.HBoot:
		x.Series, x.N, x.E = -77, 77, make([]api.Entry, 77)
	default:
		x.Series, x.E = 77, make([]api.Entry, 77)
	}
	return x
}

// entries answers n entries of one series, at each time from start on.
func entries(series, start, n int) []api.Entry {
	out := make([]api.Entry, n)
	for i := range n {
		out[i] = entry(series, start+i, i)
	}
	return out
}

// run answers the world to which all of l has happened without an error.
func run(t *testing.T, w api.World, l ...api.Happening) api.World {
	t.Helper()
	out, said, e := world.Run(w, l)
	if e != api.OK || slices.ContainsFunc(said, func(e api.Errno) bool { return e != api.OK }) {
		t.Fatalf("Run of %v on %s: %v, %d", l, told(w), said, e)
	}
	return out
}

// P11.1: up, nothing on the shelf or the disk, and nobody reads.
func TestNew(t *testing.T) {
	w := world.New()
	if want := (api.World{S: with(), Up: true, Readers: []int{-1, -1, -1}}); !alike(w, want) || world.Check(w) != api.OK {
		t.Errorf("New: %s, want %s", told(w), told(want))
	}
	v := world.New()
	scramble(v)
	if !alike(w, world.New()) {
		t.Errorf("New hangs on what another New answered: %s", told(w))
	}
}

// fine answers worlds that may be.
func fine(t *testing.T) map[string]api.World {
	t.Helper()
	senseless := "merge 3 7\nbatch 1 5 5 1 5 5\n"
	return map[string]api.World{
		"new":                      {S: with(), Up: true, Readers: []int{-1, -1, -1}},
		"lists of nothing":         {S: with(api.Row{Blocks: []api.Block{}, Head: []api.Point{}}), D: api.Disk{Safe: []byte{}, Wait: []byte{}}, Up: true, Readers: []int{0, -1, 0}},
		"plain":                    plain(t),
		"all readers at the start": altered(plain(t), func(w *api.World) { w.Readers = []int{0, 0, 0} }),
		"all readers at the end":   altered(plain(t), func(w *api.World) { w.Readers = []int{5, 5, 5} }),
		"all readers closed":       altered(plain(t), func(w *api.World) { w.Readers = []int{-1, -1, -1} }),
		"readers in no order":      altered(plain(t), func(w *api.World) { w.Readers = []int{4, 0, 3} }),
		"a full log":               full(t),
		"a reader of all of it":    altered(full(t), func(w *api.World) { w.Readers[0] = api.MaxLog }),
		"down":                     down("", ""),
		"down, with records":       down(log, ""),
		"down, one waits":          down(log, "drop 7\n"),
		"down, half of one waits":  down(log, "drop"),
		"down, anything waits":     down(log, "\n\x00\xff x\n"),
		"down, as much as may be":  down(log, strings.Repeat("x", api.MaxText-len(log))),
		"down, a full log":         down(log+idle(api.MaxLog-5), "drop 7\n"),
		"down, senseless records":  down(senseless, ""),
		"down, senseless, waiting": down("", senseless),
	}
}

// P11.1: what may be is let pass.
func TestCheck(t *testing.T) {
	for what, w := range fine(t) {
		if e := world.Check(w); e != api.OK {
			t.Errorf("Check, %s: %d, want OK", what, e)
		}
	}
}

// A wrong world, and what is to be told of it.
type wrong struct {
	what string
	w    api.World
	want api.Errno
}

// wrongDisks answers worlds whose disk may not be, by a change of a world that may be.
func wrongDisks(what string, w api.World) []wrong {
	var out []wrong
	for _, c := range []struct {
		what, safe, wait string
		want             api.Errno
	}{
		{"a torn line", log + "drop 2", "", api.ErrTorn},
		{"a torn line, and the rest waits", log + "drop 2", "\n", api.ErrTorn},
		{"no record", log + "drop 02\n", "", api.ErrText},
		{"no record, and something waits", log + "\n", "drop 2\n", api.ErrText},
		{"a record that may not be", log + "seal 4 1\n", "", api.ErrRange},
		{"a record that may not be behind one that makes no sense", "seal 1 1\nmerge 4 1\n", "x", api.ErrRange},
		{"a record too many", log + idle(api.MaxLog-4), "", api.ErrMany},
		{"a record too many, none of which makes sense", strings.Repeat("seal 1 1\n", api.MaxLog+1), "", api.ErrMany},
		{"too much waits", log, strings.Repeat("x", api.MaxText), api.ErrMany},
	} {
		out = append(out, wrong{what + ", " + c.what, altered(w, func(w *api.World) {
			w.D = api.Disk{Safe: []byte(c.safe), Wait: []byte(c.wait)}
		}), c.want})
	}
	return out
}

// wrongUp answers worlds that are up, and may not be, though their disk may.
func wrongUp(t *testing.T) []wrong {
	t.Helper()
	up := func(what string, want api.Errno, change func(*api.World)) wrong {
		return wrong{what, altered(plain(t), change), want}
	}
	safe := func(text string) func(*api.World) {
		return func(w *api.World) { w.D.Safe = []byte(text) }
	}
	return []wrong{
		up("a record waits", api.ErrForm, func(w *api.World) { w.D.Wait = []byte("batch\n") }),
		up("a byte waits", api.ErrForm, func(w *api.World) { w.D.Wait = []byte{0} }),
		up("one waits ahead of a late record", api.ErrForm, func(w *api.World) { w.D = api.Disk{Safe: []byte(log + "batch 1 31 0\n"), Wait: []byte("b")} }),
		{"one waits ahead of a reader that may not be", altered(world.New(), func(w *api.World) { w.D.Wait, w.Readers[0] = []byte("batch\n"), 1 }), api.ErrForm},

		up("a late record", api.ErrLate, safe(log+"batch 1 31 0\n")),
		up("a seal of too many", api.ErrRange, safe(log+"seal 1 3\n")),
		up("a merge of no blocks", api.ErrRange, safe("merge 1 0\n"+log)),
		up("a late record, on another shelf", api.ErrLate, func(w *api.World) { w.D.Safe, w.S = []byte(log+log), with() }),
		up("a late record, and no shelf", api.ErrLate, func(w *api.World) { w.D.Safe, w.S = []byte(log+log), api.Shelf{} }),
		up("a late record, and no readers", api.ErrLate, func(w *api.World) { w.D.Safe, w.Readers = []byte(log+log), nil }),
		up("a late record, and a reader that may not be", api.ErrLate, func(w *api.World) { w.D.Safe, w.Readers[0] = []byte(log+log), -2 }),

		up("no shelf", api.ErrForm, func(w *api.World) { w.S = api.Shelf{} }),
		up("a row too few", api.ErrForm, func(w *api.World) { w.S.Rows = w.S.Rows[:3] }),
		up("a row too many", api.ErrForm, func(w *api.World) { w.S.Rows = append(w.S.Rows, api.Row{}) }),
		up("a shelf without points", api.ErrForm, func(w *api.World) { w.S = with() }),
		up("another V", api.ErrForm, func(w *api.World) { w.S.Rows[2].Head[0].V++ }),
		up("a point too many", api.ErrForm, func(w *api.World) { w.S.Rows[3].Head = []api.Point{{T: 1}} }),
		up("a point too few", api.ErrForm, func(w *api.World) { w.S.Rows[1].Head = w.S.Rows[1].Head[:1] }),
		up("another bit", api.ErrForm, func(w *api.World) { w.S.Rows[1].Blocks[1].Bits[0] = !w.S.Rows[1].Blocks[1].Bits[0] }),
		up("another end", api.ErrForm, func(w *api.World) { w.S.Rows[1].Blocks[1].To++ }),
		up("rows that changed places", api.ErrForm, func(w *api.World) { w.S.Rows[1], w.S.Rows[2] = w.S.Rows[2], w.S.Rows[1] }),
		up("a record of which the shelf knows nothing", api.ErrForm, safe(log+"batch 3 1 1\n")),
		up("a seal of which the shelf knows nothing", api.ErrForm, safe(log+"seal 1 1\n")),
		up("a shelf of which the disk knows nothing", api.ErrForm, safe("")),
		up("another shelf, and a reader that may not be", api.ErrForm, func(w *api.World) { w.S, w.Readers[0] = with(), 9 }),

		up("no readers", api.ErrForm, func(w *api.World) { w.Readers = nil }),
		up("a reader too few", api.ErrForm, func(w *api.World) { w.Readers = []int{-1, -1} }),
		up("a reader too many", api.ErrForm, func(w *api.World) { w.Readers = []int{-1, -1, -1, -1} }),
		up("a reader too many, one of which may not be", api.ErrForm, func(w *api.World) { w.Readers = []int{9, -1, -1, -1} }),

		up("the first reader below all", api.ErrRange, func(w *api.World) { w.Readers[0] = -2 }),
		up("the second reader below all", api.ErrRange, func(w *api.World) { w.Readers[1] = -2 }),
		up("the last reader below all", api.ErrRange, func(w *api.World) { w.Readers[2] = -2 }),
		up("the first reader behind all", api.ErrRange, func(w *api.World) { w.Readers[0] = 6 }),
		up("the last reader behind all", api.ErrRange, func(w *api.World) { w.Readers[2] = 6 }),
		up("a reader far off", api.ErrRange, func(w *api.World) { w.Readers[1] = math.MaxInt }),
		up("a reader far below", api.ErrRange, func(w *api.World) { w.Readers[1] = math.MinInt }),
		{"a reader behind nothing", altered(world.New(), func(w *api.World) { w.Readers[1] = 1 }), api.ErrRange},
		{"a reader behind a full log", altered(full(t), func(w *api.World) { w.Readers[1] = api.MaxLog + 1 }), api.ErrRange},
	}
}

// wrongDown answers worlds that aren't up, and may not be, though their disk may.
func wrongDown(t *testing.T) []wrong {
	t.Helper()
	off := func(what string, want api.Errno, change func(*api.World)) wrong {
		return wrong{"down, " + what, altered(down(log, "drop 7\n"), change), want}
	}
	return []wrong{
		off("a shelf with points", api.ErrForm, func(w *api.World) { w.S = plainShelf(t) }),
		off("no shelf", api.ErrForm, func(w *api.World) { w.S = api.Shelf{} }),
		off("a row too many", api.ErrForm, func(w *api.World) { w.S.Rows = append(w.S.Rows, api.Row{}) }),
		off("no readers", api.ErrForm, func(w *api.World) { w.Readers = nil }),
		off("a reader too many", api.ErrForm, func(w *api.World) { w.Readers = []int{-1, -1, -1, -1} }),
		off("no readers, and senseless records", api.ErrForm, func(w *api.World) { w.D.Safe, w.Readers = []byte(log+log), nil }),
		off("a shelf with points, and a reader", api.ErrForm, func(w *api.World) { w.S, w.Readers[0] = plainShelf(t), 0 }),
		off("the first reader open", api.ErrRange, func(w *api.World) { w.Readers[0] = 0 }),
		off("the last reader open", api.ErrRange, func(w *api.World) { w.Readers[2] = 0 }),
		off("a reader of all records", api.ErrRange, func(w *api.World) { w.Readers[1] = 5 }),
		off("a reader below all", api.ErrRange, func(w *api.World) { w.Readers[1] = -2 }),
		off("a reader, and senseless records", api.ErrRange, func(w *api.World) { w.D.Safe, w.Readers[1] = []byte(log+log), 0 }),
		off("a reader, and no records", api.ErrRange, func(w *api.World) { w.D, w.Readers[1] = api.Disk{}, 0 }),
	}
}

func wrongWorlds(t *testing.T) []wrong {
	t.Helper()
	bad := altered(plain(t), func(w *api.World) { w.S, w.Readers = api.Shelf{}, []int{-2} })
	return slices.Concat(
		wrongDisks("plain", plain(t)), wrongDisks("down", down("", "")), wrongDisks("no shelf and no readers", api.World{}), wrongDisks("up, another shelf, a wrong reader", bad),
		wrongUp(t), wrongDown(t),
		[]wrong{{"nothing", api.World{}, api.ErrForm}, {"nothing, up", api.World{Up: true}, api.ErrForm}},
	)
}

// P11.1: the first-told error of each wrong world.
func TestCheckRefuses(t *testing.T) {
	for _, c := range wrongWorlds(t) {
		before := deep(c.w)
		if e := world.Check(c.w); e != c.want {
			t.Errorf("Check, %s: %d, want %d", c.what, e, c.want)
		}
		if !alike(c.w, before) {
			t.Errorf("Check, %s: %s became %s", c.what, told(before), told(c.w))
		}
	}
}

// P11.2, P11.3, P3: the others say Check's error ahead of any of their own, and nothing with it.
func TestOthersCheckFirst(t *testing.T) {
	happenings := []api.Happening{{}, batch(), batch(entry(4, 0, 0)), seal(1, 1), merge(1, 0), drop(5), open(0), open(3), closing(1), closing(-1), crash, boot, tear(3), {Kind: 10}}
	for _, c := range wrongWorlds(t) {
		for _, x := range happenings {
			if w, e := world.Do(c.w, x); !isZero(w) || e != c.want {
				t.Errorf("Do of %v, %s: %s %d, want %d", x, c.what, told(w), e, c.want)
			}
		}
		for _, l := range [][]api.Happening{nil, happenings, make([]api.Happening, api.MaxScript+1)} {
			if w, said, e := world.Run(c.w, l); !isZero(w) || said != nil || e != c.want {
				t.Errorf("Run of %d, %s: %s %v %d, want %d", len(l), c.what, told(w), said, e, c.want)
			}
		}
		for reader := -1; reader <= api.MaxReaders; reader++ {
			if l, e := world.Read(c.w, reader, reader, 0, 50); l != nil || e != c.want {
				t.Errorf("Read of %d, %s: %v %d, want %d", reader, c.what, l, e, c.want)
			}
		}
	}
}

// P11.1: all fields, and they alone; worlds that may not be are held against each other, too.
func TestSame(t *testing.T) {
	change := func(f func(*api.World)) api.World { return altered(plain(t), f) }
	l := []api.World{
		{}, {Up: true}, {Readers: []int{0}}, {Readers: []int{0, 0}}, {Readers: []int{1}}, {S: api.Shelf{Rows: make([]api.Row, 1)}},
		world.New(), down("", ""), down(log, ""), down("", log), plain(t), full(t),
		change(func(w *api.World) { w.Up = false }),
		change(func(w *api.World) { w.Readers[0] = 0 }),
		change(func(w *api.World) { w.Readers[2] = 4 }),
		change(func(w *api.World) { w.Readers[1], w.Readers[2] = w.Readers[2], w.Readers[1] }),
		change(func(w *api.World) { w.Readers = w.Readers[:2] }),
		change(func(w *api.World) { w.Readers = append(w.Readers, -1) }),
		change(func(w *api.World) { w.D.Safe[0] = 'B' }),
		change(func(w *api.World) { w.D.Wait = []byte{0} }),
		change(func(w *api.World) { w.S.Rows[1].Head[1].V++ }),
		change(func(w *api.World) { w.S.Rows[1].Blocks[0].Bits[3] = !w.S.Rows[1].Blocks[0].Bits[3] }),
		change(func(w *api.World) { w.S.Rows[1].Blocks[0].N++ }),
		change(func(w *api.World) { w.S.Rows = w.S.Rows[:3] }),
	}
	for i, a := range l {
		for j, b := range l {
			if world.Same(a, deep(b)) != (i == j) {
				t.Errorf("Same of %s and %s isn't %v", told(a), told(b), i == j)
			}
		}
	}
	empty := api.World{S: api.Shelf{Rows: []api.Row{}}, D: api.Disk{Safe: []byte{}, Wait: []byte{}}, Readers: []int{}}
	if !world.Same(api.World{}, empty) || !world.Same(empty, api.World{}) {
		t.Error("no lists and lists of nothing aren't the same")
	}
}

// happened is a happening on a world, and what comes of it.
type happened struct {
	what string
	w    api.World
	x    api.Happening
	want api.World
}

// records answers happenings that are written down on the plain world.
func records(t *testing.T) []happened {
	t.Helper()
	on := func(what string, x api.Happening, line string, f func(*api.World)) happened {
		want := altered(plain(t), f)
		want.D.Safe = append(want.D.Safe, line...)
		return happened{what, plain(t), x, want}
	}
	one, two := []api.Point{{T: 10, V: -5}}, []api.Point{{T: 20, V: 6}}
	head, rest := []api.Point{{T: 30, V: 7}}, []api.Point{{T: 31, V: 8}}
	return []happened{
		on("a batch of two series", batch(entry(1, 32, -9), entry(0, 5, 8), entry(1, 99, 0)), "batch 1 32 -9 0 5 8 1 99 0\n", func(w *api.World) {
			w.S.Rows[0].Head = []api.Point{{T: 5, V: 8}}
			w.S.Rows[1].Head = append(w.S.Rows[1].Head, api.Point{T: 32, V: -9}, api.Point{T: 99})
		}),
		on("a batch of nothing", batch(), "batch\n", func(*api.World) {}),
		on("as great a batch as may be", batch(entries(3, 0, api.MaxBatch)...), "batch 3 0 0 3 1 1 3 2 2 3 3 3 3 4 4 3 5 5 3 6 6 3 7 7 3 8 8 3 9 9\n", func(w *api.World) {
			for i := range api.MaxBatch {
				w.S.Rows[3].Head = append(w.S.Rows[3].Head, api.Point{T: i, V: i})
			}
		}),
		on("a seal of one", seal(1, 1), "seal 1 1\n", func(w *api.World) { w.S.Rows[1] = row(t, one, two, head, rest) }),
		on("a seal of all", seal(1, 2), "seal 1 2\n", func(w *api.World) { w.S.Rows[1] = row(t, one, two, slices.Concat(head, rest), nil) }),
		on("a seal of another series", seal(2, 1), "seal 2 1\n", func(w *api.World) { w.S.Rows[2] = row(t, w.S.Rows[2].Head, nil) }),
		on("a merge", merge(1, 0), "merge 1 0\n", func(w *api.World) { w.S.Rows[1] = row(t, slices.Concat(one, two), slices.Concat(head, rest)) }),
		on("a drop of one", drop(20), "drop 20\n", func(w *api.World) { w.S.Rows[1].Blocks = w.S.Rows[1].Blocks[1:] }),
		on("a drop of all", drop(api.MaxTime+1), "drop 100001\n", func(w *api.World) { w.S.Rows[1].Blocks = nil }),
		on("a drop of nothing", drop(0), "drop 0\n", func(*api.World) {}),
	}
}

// others answers happenings of which nothing is written down.
func others(t *testing.T) []happened {
	t.Helper()
	reads := func(what string, x api.Happening, readers ...int) happened {
		return happened{what, plain(t), x, altered(plain(t), func(w *api.World) { w.Readers = readers })}
	}
	up := func(text string) api.World {
		return altered(plain(t), func(w *api.World) { w.D.Safe, w.Readers = []byte(text), []int{-1, -1, -1} })
	}
	more := "batch 0 5 8\n"
	then := altered(up(log+more), func(w *api.World) { w.S.Rows[0].Head = []api.Point{{T: 5, V: 8}} })
	most := log + idle(api.MaxLog-6)
	then60 := altered(then, func(w *api.World) { w.D.Safe = []byte(most + more) })
	return []happened{
		reads("a reader is opened", open(0), 5, 2, 5),
		reads("an open reader is opened anew", open(1), -1, 5, 5),
		reads("an open reader of now is opened anew", open(2), -1, 2, 5),
		{"a reader of nothing is opened", world.New(), open(2), altered(world.New(), func(w *api.World) { w.Readers[2] = 0 })},
		{"a reader of a full log is opened", full(t), open(0), altered(full(t), func(w *api.World) { w.Readers[0] = api.MaxLog })},
		reads("a reader is closed", closing(1), -1, -1, 5),
		reads("the last reader is closed", closing(2), -1, 2, -1),
		reads("a closed reader is closed", closing(0), -1, 2, 5),

		{"the power goes", plain(t), crash, down(log, "")},
		{"the power of nothing goes", world.New(), crash, down("", "")},
		{"the power of a full log goes", full(t), crash, down(string(full(t).D.Safe), "")},

		{"a boot of nothing", down("", ""), boot, world.New()},
		{"a boot", down(log, ""), boot, up(log)},
		{"a boot, a record waits", down(log, more), boot, then},
		{"a boot, all records wait", down("", log+more), boot, then},
		{"a boot, half a record waits", down(log, more[:len(more)-1]), boot, up(log)},
		{"a boot, one and a half records wait", down(log, more+more[:3]), boot, then},
		{"a boot, no record waits", down(log, "x\n"+more), boot, up(log)},
		{"a boot, no record behind one", down(log, more+"\n"+more), boot, then},
		{"a boot with room for one, two wait", down(most, more+more), boot, then60},
		{"a boot of a full log, one waits", down(most+more, more), boot, then60},
	}
}

// tears answers happenings by which a batch is torn on the plain world.
func tears(t *testing.T) []happened {
	t.Helper()
	var out []happened
	text := "batch 0 5 8 1 32 -9\n"
	torn := func(n int, kept string) happened {
		return happened{"a tear at " + fmt.Sprint(n), plain(t), tear(n, entry(0, 5, 8), entry(1, 32, -9)), down(log, kept)}
	}
	for n := range len(text) + 1 {
		out = append(out, torn(n, text[:n]))
	}
	return append(out,
		torn(-1, ""), torn(math.MinInt, ""), torn(len(text)+1, text), torn(math.MaxInt, text),
		happened{"a tear of nothing", plain(t), tear(99), down(log, "batch\n")},
		happened{"the first record torn", world.New(), tear(9, entry(2, 1, 1)), down("", "batch 2 1")},
		happened{"a tear on a full log", full(t), tear(99, entry(0, 5, 8)), down(string(full(t).D.Safe), "batch 0 5 8\n")},
	)
}

// P11.2: each happening does what the chapter says of it, and nothing else; what its kind has no use for may be anything.
func TestDo(t *testing.T) {
	for _, c := range slices.Concat(records(t), others(t), tears(t)) {
		before := deep(c.w)
		for _, x := range []api.Happening{c.x, junk(c.x)} {
			w, e := world.Do(c.w, x)
			if !alike(w, c.want) || e != api.OK || world.Check(w) != api.OK {
				t.Errorf("%s, %v: %s %d, want %s", c.what, x, told(w), e, told(c.want))
			}
			if !alike(c.w, before) {
				t.Fatalf("%s: %s became %s", c.what, told(before), told(c.w))
			}
			w, said, e := world.Run(c.w, []api.Happening{x})
			if !alike(w, c.want) || !slices.Equal(said, []api.Errno{api.OK}) || e != api.OK {
				t.Errorf("Run of %s: %s %v %d, want %s", c.what, told(w), said, e, told(c.want))
			}
		}
	}
}

// A happening that has an error on a world.
type refused struct {
	what string
	w    api.World
	x    api.Happening
	want api.Errno
}

// refusedAnyhow answers happenings that aren't any, or out of turn, whatever else is wrong with them.
func refusedAnyhow(t *testing.T) []refused {
	t.Helper()
	var out []refused
	for _, kind := range []int{0, 10, 11, -1, math.MaxInt, math.MinInt} {
		x := api.Happening{Kind: kind, N: 1, E: entries(0, 50, 1)}
		out = append(out, refused{"no kind, up", plain(t), x, api.ErrForm}, refused{"no kind, down", down(log, ""), x, api.ErrForm})
	}
	for _, x := range []api.Happening{
		batch(), batch(entries(0, 0, 99)...), seal(1, 1), seal(9, 0), merge(1, 0), drop(0), drop(-1),
		open(0), open(3), closing(0), closing(-1), crash, tear(0), tear(9, entry(9, 9, 9)),
	} {
		out = append(out, refused{"down", down(log, ""), x, api.ErrLate}, refused{"down, one waits", down(log, "drop 1\n"), x, api.ErrLate})
	}
	for _, w := range []api.World{plain(t), world.New(), full(t)} {
		out = append(out, refused{"up", w, boot, api.ErrLate}, refused{"up", w, junk(boot), api.ErrLate})
	}
	return out
}

// refusedBatches answers entries that no batch may have on the plain world.
func refusedBatches() map[string]struct {
	l    []api.Entry
	want api.Errno
} {
	return map[string]struct {
		l    []api.Entry
		want api.Errno
	}{
		"a late batch":                        {[]api.Entry{entry(1, 31, 0)}, api.ErrLate},
		"a late entry behind a fine one":      {[]api.Entry{entry(0, 5, 8), entry(2, 3, 0)}, api.ErrLate},
		"a late entry ahead of a fine one":    {[]api.Entry{entry(2, 3, 0), entry(0, 5, 8)}, api.ErrLate},
		"twice the same":                      {[]api.Entry{entry(0, 5, 8), entry(0, 5, 8)}, api.ErrLate},
		"too great a batch":                   {entries(0, 50, api.MaxBatch+1), api.ErrMany},
		"too great a batch of nobody":         {entries(9, -5, api.MaxBatch+1), api.ErrMany},
		"of nobody":                           {[]api.Entry{entry(api.MaxSeries, 1, 1)}, api.ErrRange},
		"of nobody behind a late one":         {[]api.Entry{entry(2, 3, 0), entry(-1, 1, 1)}, api.ErrRange},
		"a T too great":                       {[]api.Entry{entry(0, api.MaxTime+1, 1)}, api.ErrRange},
		"a V too small":                       {[]api.Entry{entry(0, 1, -api.MaxValue-1)}, api.ErrRange},
		"a V too great in a late one":         {[]api.Entry{entry(2, 3, api.MaxValue+1)}, api.ErrRange},
		"a V far too great behind a fine one": {[]api.Entry{entry(0, 5, 8), entry(0, 6, math.MaxInt)}, api.ErrRange},
	}
}

// refusedRecords answers happenings whose record has an error on the plain world, and on the full one, too.
func refusedRecords(t *testing.T) []refused {
	t.Helper()
	var out []refused
	for name, w := range map[string]api.World{"plain": plain(t), "full": full(t)} {
		for what, c := range refusedBatches() {
			out = append(out, refused{name + ", " + what, w, batch(c.l...), c.want})
			for _, n := range []int{-1, 0, 7, 999} {
				out = append(out, refused{name + ", torn, " + what, w, tear(n, c.l...), c.want})
			}
		}
		for _, x := range []api.Happening{
			seal(1, 0), seal(1, 3), seal(0, 1), seal(4, 1), seal(-1, 1), seal(1, math.MaxInt), merge(1, 1), merge(1, -1), merge(0, 0), merge(4, 0), merge(math.MinInt, 0),
			drop(-1), drop(api.MaxTime + 2), drop(math.MaxInt),
		} {
			out = append(out, refused{name, w, x, api.ErrRange})
		}
	}
	for _, x := range []api.Happening{batch(), batch(entry(0, 5, 8)), seal(1, 1), merge(1, 0), drop(0)} {
		out = append(out, refused{"a record too many", full(t), x, api.ErrMany})
	}
	crowded := run(t, world.New(), batch(entries(0, 0, 9)...), seal(0, 1), seal(0, 1), seal(0, 1), seal(0, 1), seal(0, 1), seal(0, 1), seal(0, 1), seal(0, 1))
	return append(out, refused{"a block too many", crowded, seal(0, 1), api.ErrMany})
}

// refusedOthers answers happenings of readers and boots that have an error.
func refusedOthers(t *testing.T) []refused {
	t.Helper()
	var out []refused
	for _, reader := range []int{-1, api.MaxReaders, api.MaxReaders + 1, math.MaxInt, math.MinInt} {
		out = append(out, refused{"opening nobody", plain(t), open(reader), api.ErrWho}, refused{"closing nobody", plain(t), closing(reader), api.ErrWho})
	}
	late, torn := "batch 2 3 5\n", "seal 2 2\n"
	return append(out,
		refused{"a boot of a late record", down(log+late, ""), boot, api.ErrLate},
		refused{"a boot, a late record waits", down(log, late), boot, api.ErrLate},
		refused{"a boot of a seal of too many", down(log+torn, ""), boot, api.ErrRange},
		refused{"a boot of a seal of too many, ahead of a late one", down(log+torn, late), boot, api.ErrRange},
		refused{"a boot of a late one ahead of a seal of too many", down(log, late+torn), boot, api.ErrLate},
		refused{"a boot of a late one ahead of no record", down(log, late+"x\n"), boot, api.ErrLate},
		refused{"a boot of a merge of no blocks", down("merge 0 0\n"+log, ""), boot, api.ErrRange},
	)
}

// P11.2, P3: the first-told error, and nothing with it; in Run, what has an error changes nothing.
func TestDoRefuses(t *testing.T) {
	for _, c := range slices.Concat(refusedAnyhow(t), refusedRecords(t), refusedOthers(t)) {
		before := deep(c.w)
		w, e := world.Do(c.w, c.x)
		if !isZero(w) || e != c.want {
			t.Errorf("%s, %v: %s %d, want %d alone", c.what, c.x, told(w), e, c.want)
		}
		w, said, e := world.Run(c.w, []api.Happening{c.x, c.x})
		if !alike(w, before) || !slices.Equal(said, []api.Errno{c.want, c.want}) || e != api.OK {
			t.Errorf("Run of %s, %v: %s %v %d, want %s", c.what, c.x, told(w), said, e, told(before))
		}
		if !alike(c.w, before) {
			t.Fatalf("%s: %s became %s", c.what, told(before), told(c.w))
		}
	}
}

// P11.2: one after the other; those behind an error go on from what was there ahead of it.
func TestRun(t *testing.T) {
	one, two := entry(0, 5, 8), entry(3, 1, 1)
	l := []api.Happening{
		batch(one), batch(one), open(1), seal(0, 2), seal(0, 1), {Kind: 10}, boot, open(3), drop(5), drop(6), tear(-5, one), tear(3, two), batch(two), open(0), boot,
		tear(99, two), crash, boot, closing(0), merge(0, 0), closing(9), open(2), batch(two),
	}
	want := []api.Errno{
		0, api.ErrLate, 0, api.ErrRange, 0, api.ErrForm, api.ErrLate, api.ErrWho, 0, 0, 0, api.ErrLate, api.ErrLate, api.ErrLate, 0,
		0, api.ErrLate, 0, 0, api.ErrRange, api.ErrWho, 0, api.ErrLate,
	}
	w, said, e := world.Run(world.New(), l)
	end := api.World{
		S:       with(api.Row{}, api.Row{}, api.Row{}, row(t, []api.Point{{T: 1, V: 1}})),
		D:       api.Disk{Safe: []byte("batch 0 5 8\nseal 0 1\ndrop 5\ndrop 6\nbatch 3 1 1\n")},
		Up:      true,
		Readers: []int{-1, -1, 5},
	}
	if !alike(w, end) || !slices.Equal(said, want) || e != api.OK {
		t.Errorf("Run: %s %v %d, want %s %v", told(w), said, e, told(end), want)
	}
	step := world.New()
	for i, x := range l {
		next, e := world.Do(step, x)
		if e != want[i] {
			t.Errorf("Do of %d: %d, want %d", i, e, want[i])
		}
		if e == api.OK {
			step = next
		}
	}
	if !world.Same(step, w) {
		t.Errorf("Do, one by one: %s, want %s", told(step), told(w))
	}
}

// P11.2: a script of nothing, one as long as may be, and those that are longer.
func TestRunOfHowMany(t *testing.T) {
	for what, w := range fine(t) {
		for _, none := range [][]api.Happening{nil, {}} {
			if out, said, e := world.Run(w, none); !alike(out, w) || len(said) != 0 || e != api.OK {
				t.Errorf("%s, nothing: %s %v %d", what, told(out), said, e)
			}
		}
		if out, said, e := world.Run(w, make([]api.Happening, api.MaxScript)); !alike(out, w) || !slices.Equal(said, slices.Repeat([]api.Errno{api.ErrForm}, api.MaxScript)) || e != api.OK {
			t.Errorf("%s, as long as may be: %s %v %d", what, told(out), said, e)
		}
		for _, n := range []int{api.MaxScript + 1, api.MaxScript + 2, 5000} {
			for _, x := range []api.Happening{{}, batch(), boot} {
				if out, said, e := world.Run(w, slices.Repeat([]api.Happening{x}, n)); !isZero(out) || said != nil || e != api.ErrMany {
					t.Errorf("%s, %d: %s %v %d, want ErrMany alone", what, n, told(out), said, e)
				}
			}
		}
	}
	w, said, e := world.Run(world.New(), slices.Repeat([]api.Happening{batch()}, api.MaxScript))
	if string(w.D.Safe) != idle(api.MaxLog) || e != api.OK {
		t.Errorf("a batch again and again: %s %d", told(w), e)
	}
	for i, got := range said {
		if (got == api.OK) != (i < api.MaxLog) || (got == api.ErrMany) != (i >= api.MaxLog) {
			t.Errorf("a batch again and again: of number %d %d", i, got)
		}
	}
}

// P11.3: the shelf as it was behind so many records, by range.
func TestRead(t *testing.T) {
	all := []api.Point{{T: 10, V: -5}, {T: 20, V: 6}, {T: 30, V: 7}, {T: 31, V: 8}}
	of := func(version int) api.World {
		return altered(plain(t), func(w *api.World) { w.Readers = []int{-1, version, -1} })
	}
	for _, c := range []struct {
		version, series, from, to int
		want                      []api.Point
	}{
		{0, 1, 0, 100, nil},
		{1, 1, 0, 100, all[:1]},
		{2, 1, 0, 100, all[:2]},
		{3, 1, 0, 100, all[:2]},
		{4, 1, 0, 100, all[:2]},
		{5, 1, 0, 100, all},
		{5, 1, 10, 31, all[:3]},
		{5, 1, 11, 32, all[1:]},
		{5, 1, 20, 21, all[1:2]},
		{5, 1, 20, 20, nil},
		{5, 1, 31, 10, nil},
		{5, 1, math.MinInt, math.MaxInt, all},
		{5, 1, math.MaxInt, math.MinInt, nil},
		{0, 2, 0, 100, nil},
		{1, 2, 0, 100, []api.Point{{T: 3, V: 4}}},
		{5, 2, 3, 4, []api.Point{{T: 3, V: 4}}},
		{5, 2, 4, 100, nil},
		{5, 0, 0, 100, nil},
		{5, 3, 0, 100, nil},
	} {
		w := of(c.version)
		if l, e := world.Read(w, 1, c.series, c.from, c.to); !slices.Equal(l, c.want) || e != api.OK {
			t.Errorf("Read of %v: %v %d, want %v", c, l, e, c.want)
		}
	}
}

// P11.3, P3: no such reader, then a closed one, then no such series; nothing with it.
func TestReadRefuses(t *testing.T) {
	w := plain(t)
	for _, c := range []struct {
		what           string
		w              api.World
		reader, series int
		want           api.Errno
	}{
		{"nobody", w, -1, 1, api.ErrWho},
		{"nobody, behind all", w, api.MaxReaders, 1, api.ErrWho},
		{"nobody, far off", w, math.MaxInt, 1, api.ErrWho},
		{"nobody, far below", w, math.MinInt, 9, api.ErrWho},
		{"nobody, down", down(log, ""), 3, 1, api.ErrWho},
		{"a closed reader", w, 0, 1, api.ErrLate},
		{"a closed reader of no series", w, 0, 9, api.ErrLate},
		{"a reader that is down", down(log, ""), 2, 1, api.ErrLate},
		{"a reader of nothing that is closed", world.New(), 1, 1, api.ErrLate},
		{"no series", w, 1, api.MaxSeries, api.ErrWho},
		{"no series, below 0", w, 2, -1, api.ErrWho},
		{"no series, far off", w, 2, math.MinInt, api.ErrWho},
	} {
		for _, to := range []int{0, 100, math.MaxInt} {
			if l, e := world.Read(c.w, c.reader, c.series, 0, to); l != nil || e != c.want {
				t.Errorf("Read, %s: %v %d, want %d alone", c.what, l, e, c.want)
			}
		}
	}
}

// sight answers all that a reader sees.
func sight(t *testing.T, w api.World, reader int) string {
	t.Helper()
	var out []string
	for series := range api.MaxSeries {
		l, e := world.Read(w, reader, series, 0, api.MaxTime+1)
		if e != api.OK {
			t.Fatalf("Read of %d on %s: %d", reader, told(w), e)
		}
		out = append(out, fmt.Sprint(l))
	}
	return strings.Join(out, " ")
}

// P11.4: what is put, sealed, merged or dropped behind its opening a reader doesn't see, till it is opened anew.
func TestAReaderSeesWhatWasThere(t *testing.T) {
	w := run(t, world.New(), open(0), batch(entry(1, 5, 1), entry(2, 5, 2)), open(1), seal(1, 1), batch(entry(1, 6, 3)), seal(1, 1), merge(1, 0), open(2))
	none, first, then := "[] [] [] []", "[] [{5 1}] [{5 2}] []", "[] [{5 1} {6 3}] [{5 2}] []"
	for _, l := range [][]api.Happening{nil, {seal(2, 1)}, {batch(entry(1, 7, 4), entry(0, 7, 4))}, {drop(6)}, {drop(7)}, {drop(99)}, {batch()}} {
		w = run(t, w, l...)
		if a, b, c := sight(t, w, 0), sight(t, w, 1), sight(t, w, 2); a != none || b != first || c != then {
			t.Errorf("behind %v: the readers see %s, %s and %s", l, a, b, c)
		}
	}
	w = run(t, w, open(0), closing(1))
	if got := sight(t, w, 0); got != "[{7 4}] [{7 4}] [] []" {
		t.Errorf("opened anew: %s", got)
	}
	if _, e := world.Read(w, 1, 1, 0, 9); e != api.ErrLate || sight(t, w, 2) != then {
		t.Errorf("another one closed: %d, and the last reader sees %s", e, sight(t, w, 2))
	}
	w = run(t, w, crash, boot)
	for reader := range api.MaxReaders {
		if _, e := world.Read(w, reader, 1, 0, 9); e != api.ErrLate {
			t.Errorf("reader %d behind the boot: %d, want ErrLate", reader, e)
		}
	}
}

// P11.4: wherever a batch is torn, all of it is there behind the boot, or nothing; all of it if all was written.
func TestATornBatchIsWholeOrNotThere(t *testing.T) {
	l := []api.Entry{entry(0, 5, 8), entry(1, 32, -9), entry(1, 40, 100), entry(3, 0, 0)}
	const text = "batch 0 5 8 1 32 -9 1 40 100 3 0 0\n"
	closed := altered(plain(t), func(w *api.World) { w.Readers = []int{-1, -1, -1} })
	whole := run(t, closed, batch(l...))
	for n := -2; n <= len(text)+2; n++ {
		want := closed
		if n >= len(text) {
			want = whole
		}
		torn := run(t, plain(t), tear(n, l...))
		if w := run(t, torn, boot); !alike(w, want) {
			t.Errorf("torn at %d: %s, want %s", n, told(w), told(want))
		}
		if w := run(t, torn, boot, crash, boot, tear(0, entry(2, 4, 4)), boot); !alike(w, want) {
			t.Errorf("torn at %d, and the power goes again and again: %s, want %s", n, told(w), told(want))
		}
	}
	if w := run(t, full(t), tear(math.MaxInt, l...), boot); !alike(w, altered(full(t), func(w *api.World) { w.Readers = []int{-1, -1, -1} })) {
		t.Errorf("a batch too many, wholly written: %s", told(w))
	}
}

// dice answers numbers that look thrown and are the same at each run.
func dice(seed uint32) func(n int) int {
	return func(n int) int {
		seed = seed*1664525 + 1013904223
		return int(seed>>8) % n
	}
}

// thrown answers a happening, of which many have an error.
func thrown(throw func(int) int, now int) api.Happening {
	switch throw(24) {
	case 0, 1, 2, 3, 4, 5:
		return seal(throw(3), 1+throw(2))
	case 6, 7, 8, 9:
		return merge(throw(3), throw(2))
	case 10:
		return drop(throw(now + 1))
	case 11, 12:
		return open(throw(api.MaxReaders + 1))
	case 13:
		return closing(throw(api.MaxReaders+2) - 1)
	case 14:
		if throw(3) == 0 {
			return crash
		}
		return api.Happening{Kind: throw(30) - 10, N: throw(3)}
	case 15, 16, 17:
		return boot
	}
	l := make([]api.Entry, throw(4))
	for i := range l {
		l[i] = entry(throw(3), now+i-throw(2), throw(2*api.MaxValue+1)-api.MaxValue)
	}
	if throw(6) == 0 {
		return tear(throw(60)-5, l...)
	}
	return batch(l...)
}

// model is a world that keeps its records themselves, and what each open reader saw when it was opened.
type model struct {
	up   bool
	log  []api.Rec
	saw  [api.MaxReaders]string
	tear []api.Rec // what a tear may have left: one record wholly written, or none
}

// shelf answers what the records make.
func (m *model) shelf(t *testing.T) api.Shelf {
	t.Helper()
	if !m.up {
		return with()
	}
	s, e := store.Replay(m.log)
	if e != api.OK {
		t.Fatalf("Replay of %v: %d", m.log, e)
	}
	return s
}

// everything answers the points of all series.
func everything(t *testing.T, s api.Shelf) string {
	t.Helper()
	var out []string
	for series := range api.MaxSeries {
		l, e := shelf.All(s, series)
		if e != api.OK {
			t.Fatalf("All of %v: %d", s, e)
		}
		out = append(out, fmt.Sprint(l))
	}
	return strings.Join(out, " ")
}

// do takes a happening that had no error.
func (m *model) do(t *testing.T, x api.Happening) {
	t.Helper()
	rec := map[int]api.Rec{
		api.HBatch: {Kind: api.RBatch, E: x.E}, api.HTear: {Kind: api.RBatch, E: x.E}, api.HDrop: {Kind: api.RDrop, N: x.N},
		api.HSeal: {Kind: api.RSeal, Series: x.Series, N: x.N}, api.HMerge: {Kind: api.RMerge, Series: x.Series, N: x.N},
	}[x.Kind]
	switch x.Kind {
	case api.HOpen:
		m.saw[x.N] = everything(t, m.shelf(t))
	case api.HClose:
		m.saw[x.N] = ""
	case api.HBoot:
		m.up = true
		m.log, m.tear = append(m.log, m.tear...), nil
	case api.HCrash, api.HTear:
		*m = model{log: m.log}
		if text, _ := note.Print(rec); x.Kind == api.HTear && x.N > len(text) && len(m.log) < api.MaxLog {
			m.tear = []api.Rec{rec}
		}
	default:
		m.log = append(m.log, rec)
	}
}

// holds tells whether w is what m says, to all that each reader sees.
func (m *model) holds(t *testing.T, w api.World) bool {
	t.Helper()
	if world.Check(w) != api.OK || w.Up != m.up || !alike(w.S, m.shelf(t)) {
		return false
	}
	for reader, want := range m.saw {
		if want == "" && w.Readers[reader] != -1 || want != "" && sight(t, w, reader) != want {
			return false
		}
	}
	return true
}

// P11.4: on long walks, whenever the power goes, all batches are there wholly or not at all, and no reader sees anything else than when it was opened.
func TestLongWalks(t *testing.T) {
	did, whole := map[int]int{}, 0
	for seed := range 40 {
		throw := dice(uint32(seed))
		w, m := world.New(), &model{up: true}
		var script []api.Happening
		for now := 5; len(script) < api.MaxScript; now += 5 {
			x := thrown(throw, now)
			script = append(script, x)
			next, e := world.Do(w, x)
			if e == api.OK {
				did[x.Kind]++
				m.do(t, x)
				whole += len(m.tear)
				w = next
			}
			if !m.holds(t, w) {
				t.Fatalf("behind %v: %s, want %v", script, told(w), *m)
			}
		}
		if out, _, e := world.Run(world.New(), script); !alike(out, w) || e != api.OK {
			t.Fatalf("Run of %v: %s %d, want %s", script, told(out), e, told(w))
		}
	}
	for kind := api.HBatch; kind <= api.HTear; kind++ {
		if did[kind] < 40 {
			t.Errorf("kind %d was done only %d times", kind, did[kind])
		}
	}
	if whole < 20 {
		t.Errorf("only %d torn batches were wholly written", whole)
	}
}

// scramble writes over all lists of w, and over the room behind them.
func scramble(w api.World) {
	for _, r := range w.S.Rows {
		for _, b := range r.Blocks {
			for i := range b.Bits[:cap(b.Bits)] {
				b.Bits[:cap(b.Bits)][i] = i%3 == 0
			}
		}
		for i := range r.Blocks[:cap(r.Blocks)] {
			r.Blocks[:cap(r.Blocks)][i] = api.Block{N: -7}
		}
		for i := range r.Head[:cap(r.Head)] {
			r.Head[:cap(r.Head)][i] = api.Point{T: -7, V: -7}
		}
	}
	for i := range w.S.Rows[:cap(w.S.Rows)] {
		w.S.Rows[:cap(w.S.Rows)][i] = api.Row{Head: make([]api.Point, 7)}
	}
	clear(w.D.Safe[:cap(w.D.Safe)])
	clear(w.D.Wait[:cap(w.D.Wait)])
	for i := range w.Readers[:cap(w.Readers)] {
		w.Readers[:cap(w.Readers)][i] = 77
	}
}

// room answers a list with room behind it in which something stands.
func room[E any](l []E, behind E) []E {
	return append(slices.Clone(l), behind, behind, behind)[:len(l)]
}

// roomy answers w with room behind each list.
func roomy(w api.World) api.World {
	out := deep(w)
	for i := range out.S.Rows {
		r := &out.S.Rows[i]
		for j := range r.Blocks {
			r.Blocks[j].Bits = room(r.Blocks[j].Bits, true)
		}
		r.Blocks, r.Head = room(r.Blocks, api.Block{N: 77}), room(r.Head, api.Point{T: 77, V: 77})
	}
	out.S.Rows = room(out.S.Rows, api.Row{Head: []api.Point{{T: 77}}})
	out.D = api.Disk{Safe: room(out.D.Safe, 'r'), Wait: room(out.D.Wait, 'r')}
	out.Readers = room(out.Readers, 77)
	return out
}

// spread answers w with the room behind its lists as if it were a part of them, in memory of its own.
func spread(w api.World) api.World {
	out := api.World{S: api.Shelf{Rows: w.S.Rows[:cap(w.S.Rows)]}, D: api.Disk{Safe: w.D.Safe[:cap(w.D.Safe)], Wait: w.D.Wait[:cap(w.D.Wait)]}, Up: w.Up, Readers: w.Readers[:cap(w.Readers)]}
	out.S.Rows = slices.Clone(out.S.Rows)
	for i := range out.S.Rows {
		r := &out.S.Rows[i]
		r.Blocks, r.Head = slices.Clone(r.Blocks[:cap(r.Blocks)]), r.Head[:cap(r.Head)]
		for j := range r.Blocks {
			r.Blocks[j].Bits = r.Blocks[j].Bits[:cap(r.Blocks[j].Bits)]
		}
	}
	return deep(out)
}

// apart answers happenings on worlds, fine ones and others.
func apart(t *testing.T) []happened {
	t.Helper()
	out := slices.Concat(records(t), others(t), tears(t))
	for _, c := range slices.Concat(refusedAnyhow(t), refusedRecords(t), refusedOthers(t)) {
		out = append(out, happened{c.what, c.w, c.x, c.w})
	}
	return out
}

// P2: what is handed in is only read, the room behind it, too; what is answered shares no memory with it.
func TestAnswersAreApart(t *testing.T) {
	for _, c := range apart(t) {
		in, x := roomy(c.w), c.x
		x.E = room(x.E, entry(77, 77, 77))
		script := room([]api.Happening{x, x}, api.Happening{Kind: 77})
		before, entriesBefore := spread(in), slices.Clone(x.E[:cap(x.E)])
		same := func() bool {
			return alike(spread(in), before) && slices.Equal(x.E[:cap(x.E)], entriesBefore) && alike(script[:cap(script)], []api.Happening{x, x, {Kind: 77}, {Kind: 77}, {Kind: 77}}[:cap(script)])
		}
		w, _ := world.Do(in, x)
		v, said, _ := world.Run(in, script)
		kept, keptRun := deep(w), deep(v)
		if !same() {
			t.Fatalf("%s: what was handed in changed: %s %v", c.what, told(spread(in)), script)
		}
		other, _ := world.Do(in, x)
		scramble(other)
		other, more, _ := world.Run(in, script)
		scramble(other)
		clear(more)
		if !same() || !alike(w, kept) || !alike(v, keptRun) {
			t.Fatalf("%s: what was handed in, or answered ahead, hangs on an answer: %s %v", c.what, told(spread(in)), script)
		}
		errors := fmt.Sprint(said)
		scramble(in)
		clear(x.E[:cap(x.E)])
		clear(script)
		if !alike(w, kept) || !alike(v, keptRun) || fmt.Sprint(said) != errors {
			t.Errorf("%s: the answers hang on what was handed in: %s, %s", c.what, told(w), told(v))
		}
	}
}

// P2: no two lists of an answer share memory, though those that are handed in do.
func TestListsOfAnAnswerAreApart(t *testing.T) {
	one := []byte("batch 1 5 5\nseal 1 1\n")
	w := down("", "")
	w.D = api.Disk{Safe: one[:12], Wait: one[12:]}
	point := room([]api.Point{{T: 5, V: 5}}, api.Point{})
	up := api.World{S: with(api.Row{Head: point}, api.Row{Head: point}), D: api.Disk{Safe: []byte("batch 0 5 5 1 5 5\n")}, Up: true, Readers: []int{-1, 1, 0}}
	for _, c := range []struct {
		w api.World
		l []api.Happening
	}{
		{w, nil}, {w, []api.Happening{boot}}, {up, nil}, {up, []api.Happening{open(1)}}, {up, []api.Happening{closing(1)}}, {up, []api.Happening{crash}}, {up, []api.Happening{batch()}},
		{up, []api.Happening{batch(entry(0, 6, 6))}}, {up, []api.Happening{seal(0, 1), seal(1, 1)}}, {up, []api.Happening{drop(3)}}, {up, []api.Happening{tear(9, entry(2, 2, 2))}},
	} {
		out := run(t, c.w, c.l...)
		want := deep(out)
		for i := range out.S.Rows {
			scramble(api.World{S: api.Shelf{Rows: slices.Clone(out.S.Rows[i : i+1])}})
			if !alike(out.S.Rows[i+1:], want.S.Rows[i+1:]) {
				t.Errorf("%v: the rows behind %d hang on it: %v", c.l, i, out.S.Rows[i+1:])
			}
		}
		clear(out.D.Safe[:cap(out.D.Safe)])
		if string(out.D.Wait) != string(want.D.Wait) || !slices.Equal(out.Readers, want.Readers) {
			t.Errorf("%v: what waits, or a reader, hangs on what is safe: %s", c.l, told(out))
		}
		clear(out.D.Wait[:cap(out.D.Wait)])
		if !slices.Equal(out.Readers, want.Readers) {
			t.Errorf("%v: a reader hangs on what waits: %s", c.l, told(out))
		}
	}
}

// P2: Read only reads, and answers memory of its own.
func TestReadIsApart(t *testing.T) {
	in := roomy(plain(t))
	before := spread(in)
	a, e := world.Read(in, 2, 1, 0, 31)
	b, f := world.Read(in, 2, 1, 0, 31)
	if e != api.OK || f != api.OK || len(a) != 3 {
		t.Fatalf("Read: %v %d, %v %d", a, e, b, f)
	}
	want := slices.Clone(a)
	clear(b[:cap(b)])
	if !alike(spread(in), before) || !slices.Equal(a, want) {
		t.Errorf("Read: what was handed in, or answered ahead, hangs on the answer: %s, %v", told(spread(in)), a)
	}
	scramble(in)
	if !slices.Equal(a, want) {
		t.Errorf("Read: the answer hangs on what was handed in: %v", a)
	}
}

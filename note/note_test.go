package note_test

import (
	"math"
	"slices"
	"strconv"
	"strings"
	"testing"

	"rainbook/api"
	"rainbook/note"
)

// alike holds two records against each other field by field; lists of nothing are alike, nil or not.
func alike(a, b api.Rec) bool {
	return a.Kind == b.Kind && a.Series == b.Series && a.N == b.N && slices.Equal(a.E, b.E)
}

func isZero(r api.Rec) bool { return alike(r, api.Rec{}) && r.E == nil }

// batch answers the record of a batch.
func batch(l ...api.Entry) api.Rec { return api.Rec{Kind: api.RBatch, E: l} }

// many answers n entries that may all be.
func many(n int) []api.Entry {
	return slices.Repeat([]api.Entry{{Series: 1, T: 2, V: 3}}, n)
}

// with answers a changed r, in memory of its own.
func with(r api.Rec, change func(*api.Rec)) api.Rec {
	r.E = slices.Clone(r.E)
	change(&r)
	return r
}

// fine answers records that may be, and their texts.
func fine() []struct {
	text string
	r    api.Rec
} {
	return []struct {
		text string
		r    api.Rec
	}{
		{"batch", batch()},
		{"batch", batch([]api.Entry{}...)},
		{"batch 0 0 0", batch(api.Entry{})},
		{"batch 1 10 -5", batch(api.Entry{Series: 1, T: 10, V: -5})},
		{"batch 1 10 -5 2 3 4", batch(api.Entry{Series: 1, T: 10, V: -5}, api.Entry{Series: 2, T: 3, V: 4})},
		{"batch 3 100000 1000000", batch(api.Entry{Series: api.MaxSeries - 1, T: api.MaxTime, V: api.MaxValue})},
		{"batch 0 0 -1000000", batch(api.Entry{V: -api.MaxValue})},
		// What is late, or twice, the shelf tells, not the record.
		{"batch 2 9 1 2 9 1 2 3 4", batch(api.Entry{Series: 2, T: 9, V: 1}, api.Entry{Series: 2, T: 9, V: 1}, api.Entry{Series: 2, T: 3, V: 4})},
		{"batch" + strings.Repeat(" 1 2 3", api.MaxBatch), batch(many(api.MaxBatch)...)},
		{"seal 0 0", api.Rec{Kind: api.RSeal}},
		{"seal 1 2", api.Rec{Kind: api.RSeal, Series: 1, N: 2}},
		{"seal 3 100001", api.Rec{Kind: api.RSeal, Series: api.MaxSeries - 1, N: api.MaxTime + 1}},
		{"seal 2 41", api.Rec{Kind: api.RSeal, Series: 2, N: 41, E: []api.Entry{}}},
		{"merge 0 0", api.Rec{Kind: api.RMerge}},
		{"merge 3 0", api.Rec{Kind: api.RMerge, Series: 3}},
		{"merge 2 7", api.Rec{Kind: api.RMerge, Series: 2, N: 7}},
		{"merge 3 100001", api.Rec{Kind: api.RMerge, Series: api.MaxSeries - 1, N: api.MaxTime + 1}},
		{"drop 0", api.Rec{Kind: api.RDrop}},
		{"drop 20", api.Rec{Kind: api.RDrop, N: 20}},
		{"drop 100001", api.Rec{Kind: api.RDrop, N: api.MaxTime + 1}},
	}
}

// A wrong record, and what is to be told of it.
type wrong struct {
	what string
	r    api.Rec
	want api.Errno
}

// wrongBatches answers batches that may not be.
func wrongBatches() []wrong {
	good, bad := api.Entry{Series: 1, T: 2, V: 3}, api.Entry{Series: -1, T: -1, V: -api.MaxValue - 1}
	out := []wrong{
		{"with a series", with(batch(good), func(r *api.Rec) { r.Series = 1 }), api.ErrForm},
		{"with a series below 0", with(batch(good), func(r *api.Rec) { r.Series = -1 }), api.ErrForm},
		{"with an N", with(batch(good), func(r *api.Rec) { r.N = 1 }), api.ErrForm},
		{"with an N below 0", with(batch(good), func(r *api.Rec) { r.N = math.MinInt }), api.ErrForm},
		{"of nothing with an N", with(batch(), func(r *api.Rec) { r.N = 1 }), api.ErrForm},
		{"with series and N that outdo each other", with(batch(good), func(r *api.Rec) { r.Series, r.N = -1, 1 }), api.ErrForm},
		{"of one too many", batch(many(api.MaxBatch + 1)...), api.ErrMany},
		{"of far too many", batch(many(10000)...), api.ErrMany},
		{"of too many, with a series", with(batch(many(api.MaxBatch+1)...), func(r *api.Rec) { r.Series = 1 }), api.ErrForm},
		{"of too many, all wrong", batch(slices.Repeat([]api.Entry{bad}, api.MaxBatch+1)...), api.ErrMany},
		{"of a wrong one, with an N", with(batch(bad), func(r *api.Rec) { r.N = 1 }), api.ErrForm},
		{"of a wrong one first", batch(bad, good), api.ErrRange},
		{"of a wrong one last", batch(append(many(api.MaxBatch-1), bad)...), api.ErrRange},
		{"of nothing but wrong ones", batch(bad, bad), api.ErrRange},
	}
	for _, n := range []int{math.MinInt, -1, api.MaxSeries, math.MaxInt} {
		out = append(out, wrong{"of series " + strconv.Itoa(n), batch(api.Entry{Series: n}), api.ErrRange})
	}
	for _, n := range []int{math.MinInt, -1, api.MaxTime + 1, math.MaxInt} {
		out = append(out, wrong{"at " + strconv.Itoa(n), batch(api.Entry{T: n}), api.ErrRange})
	}
	for _, n := range []int{math.MinInt, -api.MaxValue - 1, api.MaxValue + 1, math.MaxInt} {
		out = append(out, wrong{"of value " + strconv.Itoa(n), batch(api.Entry{V: n}), api.ErrRange})
	}
	return out
}

// wrongOthers answers records of no kind, and of the kinds but RBatch, that may not be.
func wrongOthers() []wrong {
	var out []wrong
	for _, kind := range []int{math.MinInt, -1, 0, 5, math.MaxInt} {
		name := "kind " + strconv.Itoa(kind)
		out = append(out,
			wrong{name, api.Rec{Kind: kind}, api.ErrForm},
			wrong{name + " with all wrong", api.Rec{Kind: kind, Series: -1, N: -1, E: many(api.MaxBatch + 1)}, api.ErrForm})
	}
	for _, kind := range []int{api.RSeal, api.RMerge, api.RDrop} {
		name := "kind " + strconv.Itoa(kind)
		out = append(out,
			wrong{name + " with an entry", api.Rec{Kind: kind, E: many(1)}, api.ErrForm},
			wrong{name + " with a zero entry", api.Rec{Kind: kind, E: []api.Entry{{}}}, api.ErrForm},
			wrong{name + " with too many entries", api.Rec{Kind: kind, E: many(api.MaxBatch + 1)}, api.ErrForm},
			wrong{name + " with an entry and all else wrong", api.Rec{Kind: kind, Series: -1, N: -1, E: many(1)}, api.ErrForm})
		// There is no series of a drop, so that one that isn't 0 is of the wrong form, in range or not.
		want := api.ErrRange
		if kind == api.RDrop {
			want = api.ErrForm
		}
		for _, n := range []int{math.MinInt, -1, api.MaxSeries, math.MaxInt} {
			out = append(out,
				wrong{name + " of series " + strconv.Itoa(n), api.Rec{Kind: kind, Series: n}, want},
				wrong{name + " of N -1, series " + strconv.Itoa(n), api.Rec{Kind: kind, Series: n, N: -1}, want})
		}
		for _, n := range []int{math.MinInt, -1, api.MaxTime + 2, math.MaxInt} {
			out = append(out, wrong{name + " of N " + strconv.Itoa(n), api.Rec{Kind: kind, N: n}, api.ErrRange})
		}
	}
	return append(out,
		wrong{"a drop of a series", api.Rec{Kind: api.RDrop, Series: 1}, api.ErrForm},
		wrong{"a drop of a series and a wrong N", api.Rec{Kind: api.RDrop, Series: 1, N: -1}, api.ErrForm})
}

func allWrong() []wrong { return append(wrongBatches(), wrongOthers()...) }

// P8.1: what may be is let pass, out to the outermost numbers.
func TestCheck(t *testing.T) {
	for _, c := range fine() {
		if e := note.Check(c.r); e != api.OK {
			t.Errorf("Check(%v): %d, want OK", c.r, e)
		}
	}
}

// P8.1: the first-told error of each wrong record.
func TestCheckRefuses(t *testing.T) {
	for _, c := range allWrong() {
		if e := note.Check(c.r); e != c.want {
			t.Errorf("Check, %s: %d, want %d", c.what, e, c.want)
		}
	}
}

// P8.1: all fields, and they alone; records that may not be are held against each other, too.
func TestSame(t *testing.T) {
	entries := []api.Entry{{Series: 1, T: 2, V: 3}, {Series: -4, T: math.MinInt, V: math.MaxInt}}
	for _, r := range []api.Rec{
		{},
		{Kind: api.RSeal, Series: 1, N: 2},
		{Kind: math.MinInt, Series: math.MaxInt, N: -1, E: entries},
		batch(entries...),
		batch(many(api.MaxBatch + 1)...),
	} {
		if c := with(r, func(*api.Rec) {}); !note.Same(r, r) || !note.Same(r, c) || !note.Same(c, r) {
			t.Errorf("%v isn't the same as itself", r)
		}
		for what, change := range map[string]func(*api.Rec){
			"kind":        func(r *api.Rec) { r.Kind++ },
			"series":      func(r *api.Rec) { r.Series-- },
			"n":           func(r *api.Rec) { r.N++ },
			"more":        func(r *api.Rec) { r.E = append(r.E, api.Entry{}) },
			"more ahead":  func(r *api.Rec) { r.E = slices.Insert(r.E, 0, api.Entry{T: 77}) },
			"swapped":     func(r *api.Rec) { r.Series, r.N = r.N+1, r.Series+1 },
			"wholly else": func(r *api.Rec) { *r = api.Rec{Kind: 9, Series: 9, N: 9, E: many(3)} },
		} {
			if x := with(r, change); note.Same(r, x) || note.Same(x, r) {
				t.Errorf("%s: %v is the same as %v", what, x, r)
			}
		}
	}
	for what, change := range map[string]func(*api.Rec){
		"series of an entry": func(r *api.Rec) { r.E[1].Series++ },
		"time of an entry":   func(r *api.Rec) { r.E[0].T++ },
		"value of an entry":  func(r *api.Rec) { r.E[1].V++ },
		"one less":           func(r *api.Rec) { r.E = r.E[:1] },
		"none":               func(r *api.Rec) { r.E = nil },
		"turned":             func(r *api.Rec) { slices.Reverse(r.E) },
	} {
		if r := batch(entries...); note.Same(r, with(r, change)) || note.Same(with(r, change), r) {
			t.Errorf("%s: a changed record is the same", what)
		}
	}
}

// P2: a list of nothing is as good as none.
func TestSameOfNothing(t *testing.T) {
	a, b := api.Rec{Kind: api.RBatch}, api.Rec{Kind: api.RBatch, E: []api.Entry{}}
	if !note.Same(a, b) || !note.Same(b, a) {
		t.Error("no list and a list of nothing aren't the same")
	}
}

// P8.2: the texts, to the byte.
func TestPrint(t *testing.T) {
	for _, c := range fine() {
		if s, e := note.Print(c.r); s != c.text || e != api.OK {
			t.Errorf("Print(%v): %q %d, want %q", c.r, s, e, c.text)
		}
	}
}

// P8.2: Check's error, and no text with it.
func TestPrintRefuses(t *testing.T) {
	for _, c := range allWrong() {
		if s, e := note.Print(c.r); s != "" || e != c.want {
			t.Errorf("Print, %s: %q %d, want %d", c.what, s, e, c.want)
		}
	}
}

// P8.2: of each text the record, with nothing but what the text tells.
func TestParse(t *testing.T) {
	for _, c := range fine() {
		if r, e := note.Parse(c.text); !alike(r, c.r) || e != api.OK {
			t.Errorf("Parse(%q): %v %d, want %v", c.text, r, e, c.r)
		}
	}
}

// P8.2: what isn't written so.
func TestParseRefusesTexts(t *testing.T) {
	texts := []string{
		"", " ", "\n", "1", "1 2", "x", "stop 1", "batc", "batchs", "batch1", "sealed 1 2",
		"Batch", "SEAL 1 2", "drop1", "merge3 0", "batch,1,2,3", "seal\t1\t2", "seal\u00a01 2",
		" batch", "batch ", "batch  1 2 3", "batch 1 2 3 ", " seal 1 2", "seal  1 2", "seal 1  2", "seal 1 2 ",
		"drop 1 ", " drop 1", "drop  1", "drop ", "seal ", "merge ", "batch\n", "drop 1\n", "drop 1\r", "\ufeffdrop 1", "drop\x001", "drop 1\x00",
		"batch 1", "batch 1 2", "batch 1 2 3 4", "batch 1 2 3 4 5", "batch batch", "batch 1 2 3 batch 1 2 3",
		"seal", "seal 1", "seal 1 2 3", "merge", "merge 1", "merge 1 2 3", "drop", "drop 1 2", "drop 1 2 3", "drop drop",
		"seal x 1", "seal 1 x", "merge 1 two", "drop one", "batch 1 2 x", "batch x 2 3", "batch 1 x 3",
		// Itoa of a number greater than any can't be.
		"drop 9223372036854775808", "drop -9223372036854775809", "batch 1 99999999999999999999999999 1",
		strings.Repeat(" ", api.MaxText), "batch" + strings.Repeat(" 1", 100), "drop " + strings.Repeat("1", api.MaxText-5),
	}
	for _, n := range []string{"+1", "01", "00", "-0", "-01", "+0", "--1", "-", "1-", "1.0", "1e1", "0x1", "1_0", "0b1", "०", "１", "NaN", "'1'"} {
		texts = append(texts, "drop "+n, "seal "+n+" 1", "seal 1 "+n, "merge "+n+" 1", "merge 1 "+n, "batch "+n+" 1 1", "batch 1 "+n+" 1", "batch 1 1 "+n, "batch 1 1 1 1 1 "+n)
	}
	for _, s := range texts {
		if r, e := note.Parse(s); !isZero(r) || e != api.ErrText {
			t.Errorf("Parse(%.80q): %v %d, want ErrText", s, r, e)
		}
	}
}

// P8.2: longer than may be is told ahead of what is written there; as long as may be isn't.
func TestParseRefusesLongTexts(t *testing.T) {
	for _, s := range []string{
		strings.Repeat("x", api.MaxText+1),
		strings.Repeat(" ", api.MaxText+1),
		"batch" + strings.Repeat(" 1 2 3", api.MaxText/6),
		"drop 1" + strings.Repeat("\n", api.MaxText),
		strings.Repeat("é", api.MaxText/2) + "é",
	} {
		if r, e := note.Parse(s); !isZero(r) || e != api.ErrMany {
			t.Errorf("Parse of %d bytes, %.20q: %v %d, want ErrMany", len(s), s, r, e)
		}
	}
	// In bytes, not in runes.
	if r, e := note.Parse(strings.Repeat("é", api.MaxText/2)); !isZero(r) || e != api.ErrText {
		t.Errorf("Parse of as many bytes as may be: %v %d, want ErrText", r, e)
	}
}

// P8.2: Check's error of what is written well, behind all that is wrong with how it is written.
func TestParseRefusesRecords(t *testing.T) {
	for s, want := range map[string]api.Errno{
		"batch 4 1 1":                    api.ErrRange,
		"batch -1 1 1":                   api.ErrRange,
		"batch 0 100001 1":               api.ErrRange,
		"batch 0 -1 1":                   api.ErrRange,
		"batch 0 1 1000001":              api.ErrRange,
		"batch 0 1 -1000001":             api.ErrRange,
		"batch 0 1 1 4 1 1":              api.ErrRange,
		"batch 0 9223372036854775807 1":  api.ErrRange,
		"batch 0 1 -9223372036854775808": api.ErrRange,
		"batch" + strings.Repeat(" 1 2 3", api.MaxBatch+1): api.ErrMany,
		"batch" + strings.Repeat(" 9 9 9", api.MaxBatch+1): api.ErrMany,
		"batch" + strings.Repeat(" 1 2 3", 9999):           api.ErrMany,
		"seal 4 1":                                         api.ErrRange,
		"seal -1 1":                                        api.ErrRange,
		"seal 1 -1":                                        api.ErrRange,
		"seal 1 100002":                                    api.ErrRange,
		"merge 4 1":                                        api.ErrRange,
		"merge -1 1":                                       api.ErrRange,
		"merge 1 -1":                                       api.ErrRange,
		"merge 1 100002":                                   api.ErrRange,
		"drop -1":                                          api.ErrRange,
		"drop 100002":                                      api.ErrRange,
		"drop -9223372036854775808":                        api.ErrRange,
		"batch 4 1 1 1":                                    api.ErrText,
		"batch 4 1 1 1 1 x":                                api.ErrText,
		"batch" + strings.Repeat(" 1 2 3", api.MaxBatch+1) + " ": api.ErrText,
		"batch" + strings.Repeat(" 1", 3*api.MaxBatch+4):         api.ErrText,
		"seal 4 x":  api.ErrText,
		"drop -1 1": api.ErrText,
	} {
		if r, e := note.Parse(s); !isZero(r) || e != want {
			t.Errorf("Parse(%.80q): %v %d, want %d", s, r, e, want)
		}
	}
}

// P2: nothing of what is handed in is changed, nor the room behind it, and nothing of it is kept.
func TestOnlyReads(t *testing.T) {
	for n := range api.MaxBatch + 3 {
		whole := many(n + 5)
		for i := range whole {
			whole[i].T = i
		}
		before := slices.Clone(whole)
		r := batch(whole[:n]...)
		note.Check(r)
		note.Same(r, r)
		s, e := note.Print(r)
		if !slices.Equal(whole, before) {
			t.Errorf("a batch of %d was changed to %v", n, whole)
		}
		clear(whole)
		if again, e2 := note.Print(batch(before[:n]...)); again != s || e2 != e {
			t.Errorf("Print of %d entries: %q, and later %q", n, s, again)
		}
	}
}

// P2: two answers share no memory.
func TestParseIsNew(t *testing.T) {
	const text = "batch 1 10 -5 2 3 4"
	a, _ := note.Parse(text)
	b, _ := note.Parse(text)
	clear(a.E[:cap(a.E)])
	if s, e := note.Print(b); s != text || e != api.OK {
		t.Errorf("a second answer became %q %d", s, e)
	}
}

// back holds Parse of Print of a record against it.
func back(t *testing.T, r api.Rec) {
	t.Helper()
	s, e := note.Print(r)
	if e != api.OK {
		t.Fatalf("Print(%v): %d", r, e)
	}
	if x, e := note.Parse(s); !alike(x, r) || e != api.OK || !note.Same(x, r) {
		t.Fatalf("Parse of %q: %v %d, want %v", s, x, e, r)
	}
}

func dice(seed uint32) func(n int) int {
	return func(n int) int {
		seed = seed*1664525 + 1013904223
		return int(seed>>8) % n
	}
}

// P8.3: of all that may be at the outermost, and of many thrown.
func TestParseOfPrint(t *testing.T) {
	for _, c := range fine() {
		back(t, c.r)
	}
	for _, kind := range []int{api.RSeal, api.RMerge} {
		for series := range api.MaxSeries {
			for n := 0; n <= api.MaxTime+1; n += 37 {
				back(t, api.Rec{Kind: kind, Series: series, N: n})
			}
		}
	}
	for n := range api.MaxTime + 2 {
		back(t, api.Rec{Kind: api.RDrop, N: n})
	}
	throw := dice(8)
	for range 2000 {
		l := make([]api.Entry, throw(api.MaxBatch+1))
		for i := range l {
			l[i] = api.Entry{Series: throw(api.MaxSeries), T: throw(api.MaxTime + 1), V: throw(2*api.MaxValue+1) - api.MaxValue}
		}
		back(t, batch(l...))
	}
}

// texts calls f with all lists of up to n pieces, put together.
func texts(n int, pieces []string, s string, f func(string)) {
	f(s)
	if n == 0 {
		return
	}
	for _, p := range pieces {
		texts(n-1, pieces, s+p, f)
	}
}

// P8.3, the other way round: what is parsed is printed so, to the byte; there is one text of a record alone.
func TestPrintOfParse(t *testing.T) {
	parsed := 0
	for _, word := range []string{"batch", "seal", "merge", "drop"} {
		texts(6, []string{" ", "0", "1", "-", "+", " 1", " 20"}, word, func(s string) {
			r, e := note.Parse(s)
			if e != api.OK {
				return
			}
			parsed++
			if again, e := note.Print(r); again != s || e != api.OK {
				t.Fatalf("Print of Parse of %q: %q %d", s, again, e)
			}
		})
	}
	if parsed < 500 {
		t.Errorf("only %d texts were parsed", parsed)
	}
}

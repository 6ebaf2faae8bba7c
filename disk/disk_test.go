package disk_test

import (
	"bytes"
	"math"
	"slices"
	"strconv"
	"strings"
	"testing"

	"rainbook/api"
	"rainbook/disk"
	"rainbook/note"
)

// of answers a disk of two texts.
func of(safe, wait string) api.Disk {
	return api.Disk{Safe: []byte(safe), Wait: []byte(wait)}
}

// holds tells whether a disk is these two texts.
func holds(d api.Disk, safe, wait string) bool {
	return string(d.Safe) == safe && string(d.Wait) == wait
}

func isZero(d api.Disk) bool { return d.Safe == nil && d.Wait == nil }

func told(d api.Disk) string {
	return strconv.QuoteToASCII(string(d.Safe)) + " " + strconv.QuoteToASCII(string(d.Wait))
}

func drop(n int) api.Rec { return api.Rec{Kind: api.RDrop, N: n} }

// drops answers the lines of n records.
func drops(n int) string {
	var out strings.Builder
	for i := range n {
		out.WriteString("drop " + strconv.Itoa(i) + "\n")
	}
	return out.String()
}

// batch answers the greatest record: as many entries as may be, of the longest numbers.
func batch() api.Rec {
	return api.Rec{Kind: api.RBatch, E: slices.Repeat([]api.Entry{{Series: 3, T: api.MaxTime, V: -api.MaxValue}}, api.MaxBatch)}
}

func textOf(t *testing.T, r api.Rec) string {
	t.Helper()
	s, e := note.Print(r)
	if e != api.OK {
		t.Fatalf("Print(%v): %d", r, e)
	}
	return s + "\n"
}

// mixed answers records of all kinds.
func mixed() []api.Rec {
	return []api.Rec{
		{Kind: api.RBatch, E: []api.Entry{{Series: 1, T: 10, V: -5}, {Series: 2, T: 3, V: 4}}},
		{Kind: api.RSeal, Series: 1, N: 20},
		drop(100001),
		{Kind: api.RBatch},
		{Kind: api.RMerge, Series: 3, N: 0},
		{Kind: api.RSeal, Series: 0, N: 100},
		batch(),
		drop(0),
	}
}

// fine answers disks that may be.
func fine() map[string]api.Disk {
	return map[string]api.Disk{
		"nothing":                          {},
		"lists of nothing":                 of("", ""),
		"one record":                       of("drop 2\n", ""),
		"one that waits":                   of("", "drop 2\n"),
		"all kinds":                        of("batch\nbatch 1 10 -5 2 3 4\nseal 1 2\nmerge 3 0\ndrop 2\n", "batch\n"),
		"what makes no sense on a shelf":   of("merge 3 7\nseal 0 100001\nbatch 1 5 5 1 5 5\n", ""),
		"as many records as may be":        of(drops(api.MaxLog), ""),
		"as many, and one more that waits": of(drops(api.MaxLog), "drop 7\n"),
		"many that wait":                   of("", drops(api.MaxLog+5)),
		"a torn one that waits":            of("drop 2\n", "drop"),
		"anything that waits":              of("drop 2\n", "\n\n\x00\xff x\n"),
		"as much as may be that waits":     of("", strings.Repeat("\n", api.MaxText)),
		"as much as may be, all in all":    of("drop 2\n", strings.Repeat("x", api.MaxText-7)),
	}
}

// A wrong disk, and what is to be told of it.
type wrong struct {
	what string
	d    api.Disk
	want api.Errno
}

func wrongDisks() []wrong {
	full := drops(api.MaxLog)
	crowd := " 1 2 3"
	return []wrong{
		{"too much safe", of(strings.Repeat("x", api.MaxText+1), ""), api.ErrMany},
		{"too much that waits", of("", strings.Repeat("x", api.MaxText+1)), api.ErrMany},
		{"far too much", of(strings.Repeat("x", api.MaxText), strings.Repeat("x", api.MaxText)), api.ErrMany},
		{"too much, all in all", of("drop 2\n", strings.Repeat("x", api.MaxText-6)), api.ErrMany},
		{"too much behind a wrong line", of("drop\n", strings.Repeat("x", api.MaxText-4)), api.ErrMany},
		{"too much behind a torn line", of("drop 2", strings.Repeat("x", api.MaxText-5)), api.ErrMany},

		{"a torn line", of("drop 2", ""), api.ErrTorn},
		{"a torn line that goes on in what waits", of("drop 2", "\n"), api.ErrTorn},
		{"a torn line of no record", of("x", ""), api.ErrTorn},
		{"a torn line of a wrong record", of("drop 100002", ""), api.ErrTorn},
		{"a blank", of(" ", ""), api.ErrTorn},
		{"a zero byte behind a record", of("drop 2\n\x00", ""), api.ErrTorn},
		{"a carriage return for a line feed", of("drop 2\r", ""), api.ErrTorn},
		{"a torn line behind others", of("drop 2\ndrop 3\ndrop 4", ""), api.ErrTorn},
		{"a torn line, one too many", of(full+"drop 4", ""), api.ErrTorn},
		{"as much as may be in a torn line", of(strings.Repeat("x", api.MaxText), ""), api.ErrTorn},

		{"a line of nothing", of("\n", ""), api.ErrText},
		{"as many lines of nothing as bytes may be", of(strings.Repeat("\n", api.MaxText), ""), api.ErrText},
		{"a line of nothing behind a record", of("drop 2\n\n", ""), api.ErrText},
		{"a line of nothing between records", of("drop 2\n\ndrop 3\n", ""), api.ErrText},
		{"a line of nothing ahead of a record", of("\ndrop 2\n", ""), api.ErrText},
		{"a line of no record", of("x\n", ""), api.ErrText},
		{"a carriage return ahead of the line feed", of("drop 2\r\n", ""), api.ErrText},
		{"a blank ahead of the line feed", of("drop 2 \n", ""), api.ErrText},
		{"a line of no record ahead of a torn one", of("drop 2\nx\ndrop 3", ""), api.ErrText},
		{"a line of no record, one too many", of(full+"x\n", ""), api.ErrText},
		{"as much as may be in a line of no record", of(strings.Repeat("x", api.MaxText-1)+"\n", ""), api.ErrText},

		{"a record that may not be", of("drop 100002\n", ""), api.ErrRange},
		{"a series that there isn't", of("seal 4 1\n", ""), api.ErrRange},
		{"a record that may not be ahead of no record", of("merge 4 0\nx\n", ""), api.ErrRange},
		{"a record that may not be ahead of a torn one", of("drop 2\nbatch 0 -1 0\ndrop 3", ""), api.ErrRange},
		{"a record that may not be behind others", of("drop 2\nseal 0 0\ndrop -1\n", ""), api.ErrRange},
		{"a record that may not be, one too many", of(full+"drop -1\n", ""), api.ErrRange},
		{"too great a batch", of("batch"+strings.Repeat(crowd, api.MaxBatch+1)+"\n", ""), api.ErrMany},
		{"too great a batch ahead of no record", of("batch"+strings.Repeat(crowd, api.MaxBatch+1)+"\nx\n", ""), api.ErrMany},
		{"no record ahead of too great a batch", of("x\nbatch"+strings.Repeat(crowd, api.MaxBatch+1)+"\n", ""), api.ErrText},

		{"a record too many", of(drops(api.MaxLog+1), ""), api.ErrMany},
		{"many records too many", of(drops(1000), ""), api.ErrMany},
		{"a record too many ahead of no record", of(drops(api.MaxLog+1)+"x\n", ""), api.ErrMany},
		{"a record too many ahead of a torn one", of(drops(api.MaxLog+1)+"drop", ""), api.ErrMany},
		{"no record as the last that may be", of(drops(api.MaxLog-1)+"x\ndrop 3\ndrop 4\n", ""), api.ErrText},
	}
}

// P9.1: what may be is let pass, up to as much and as many as may be; what waits is anything.
func TestCheck(t *testing.T) {
	for what, d := range fine() {
		if e := disk.Check(d); e != api.OK {
			t.Errorf("Check, %s: %d, want OK", what, e)
		}
	}
}

// P9.1: the first-told error of each wrong disk, and of the first wrong line.
func TestCheckRefuses(t *testing.T) {
	for _, c := range wrongDisks() {
		if e := disk.Check(c.d); e != c.want {
			t.Errorf("Check, %s: %d, want %d", c.what, e, c.want)
		}
	}
}

// P9.1: the others say Check's error ahead of any of their own, and nothing with it.
func TestOthersCheckFirst(t *testing.T) {
	for _, c := range wrongDisks() {
		for _, r := range []api.Rec{drop(2), {}, drop(-1), batch()} {
			if d, e := disk.Put(c.d, r); !isZero(d) || e != c.want {
				t.Errorf("Put, %s: %s %d, want %d", c.what, told(d), e, c.want)
			}
		}
		if d, e := disk.Sync(c.d); !isZero(d) || e != c.want {
			t.Errorf("Sync, %s: %s %d, want %d", c.what, told(d), e, c.want)
		}
		for _, n := range []int{0, len(c.d.Wait), -1, len(c.d.Wait) + 1} {
			if d, e := disk.Crash(c.d, n); !isZero(d) || e != c.want {
				t.Errorf("Crash at %d, %s: %s %d, want %d", n, c.what, told(d), e, c.want)
			}
		}
		if d, l, e := disk.Recover(c.d); !isZero(d) || l != nil || e != c.want {
			t.Errorf("Recover, %s: %s %v %d, want %d", c.what, told(d), l, e, c.want)
		}
	}
}

// P9.1: both fields, to the byte, and they alone; disks that may not be are held against each other, too.
func TestSame(t *testing.T) {
	l := []api.Disk{
		{}, of("a", ""), of("", "a"), of("a", "a"), of("b", "a"), of("a", "b"), of("A", "a"), of("ab", ""), of("", "ab"), of("aa", ""),
		of("drop 2\n", "drop 3\n"), of("drop 3\n", "drop 2\n"), of("drop 2\ndrop 3\n", ""), of("drop 2\n", "drop 3"), of("drop 2\n", "drop 3\n\x00"),
		of("\xff", "\xfe"), of("\xfe", "\xff"), of(strings.Repeat("x", api.MaxText+1), ""), of(strings.Repeat("x", api.MaxText+2), ""),
	}
	for i, a := range l {
		for j, b := range l {
			b = of(string(b.Safe), string(b.Wait))
			if disk.Same(a, b) != (i == j) || disk.Same(b, a) != (i == j) {
				t.Errorf("Same of %.60s and %.60s isn't %v", told(a), told(b), i == j)
			}
		}
	}
}

// P2: a list of nothing is as good as none.
func TestSameOfNothing(t *testing.T) {
	none, nothing := api.Disk{}, api.Disk{Safe: []byte{}, Wait: []byte{}}
	if !disk.Same(none, nothing) || !disk.Same(nothing, none) {
		t.Error("no lists and lists of nothing aren't the same")
	}
}

// P9.2: the record's text and a line feed behind what waits, whatever that is; what is safe stays.
func TestPut(t *testing.T) {
	for what, d := range fine() {
		for _, r := range mixed() {
			text := textOf(t, r)
			if len(d.Safe)+len(d.Wait)+len(text) > api.MaxText {
				continue
			}
			out, e := disk.Put(d, r)
			if !holds(out, string(d.Safe), string(d.Wait)+text) || e != api.OK {
				t.Errorf("Put of %q, %s: %s %d", text, what, told(out), e)
			}
		}
	}
}

// P9.2: a record that may not be is told ahead of there being too much.
func TestPutRefusesRecords(t *testing.T) {
	crowd := slices.Repeat([]api.Entry{{Series: 1}}, api.MaxBatch+1)
	for _, c := range []struct {
		what string
		r    api.Rec
		want api.Errno
	}{
		{"no kind", api.Rec{}, api.ErrForm},
		{"a kind that there isn't", api.Rec{Kind: 5}, api.ErrForm},
		{"a batch with an N", api.Rec{Kind: api.RBatch, N: 1}, api.ErrForm},
		{"a drop of a series", api.Rec{Kind: api.RDrop, Series: 1}, api.ErrForm},
		{"a seal with an entry", api.Rec{Kind: api.RSeal, E: crowd[:1]}, api.ErrForm},
		{"too great a batch", api.Rec{Kind: api.RBatch, E: crowd}, api.ErrMany},
		{"a drop below 0", drop(-1), api.ErrRange},
		{"a drop too late", drop(api.MaxTime + 2), api.ErrRange},
		{"a merge of no series", api.Rec{Kind: api.RMerge, Series: api.MaxSeries}, api.ErrRange},
		{"a batch of no series", api.Rec{Kind: api.RBatch, E: []api.Entry{{Series: math.MinInt}}}, api.ErrRange},
	} {
		for what, d := range fine() {
			if out, e := disk.Put(d, c.r); !isZero(out) || e != c.want {
				t.Errorf("Put of %s, %s: %s %d, want %d", c.what, what, told(out), e, c.want)
			}
		}
	}
}

// P9.2: the line feed counts, and what is safe does; as much as may be goes, a byte more doesn't.
func TestPutRefusesTooMuch(t *testing.T) {
	for _, r := range mixed() {
		text := textOf(t, r)
		for _, safe := range []string{"", "drop 2\n", drops(api.MaxLog)} {
			fits := api.MaxText - len(safe) - len(text)
			wait := strings.Repeat("x", fits)
			if d, e := disk.Put(of(safe, wait), r); !holds(d, safe, wait+text) || e != api.OK || disk.Check(d) != api.OK {
				t.Errorf("Put of %q behind %d that are safe and %d that wait: %d, want OK", text, len(safe), fits, e)
			}
			for more := 1; more <= len(text); more++ {
				if d, e := disk.Put(of(safe, wait+strings.Repeat("x", more)), r); !isZero(d) || e != api.ErrMany {
					t.Errorf("Put of %q behind %d that are safe and %d that wait: %d, want ErrMany", text, len(safe), fits+more, e)
				}
			}
		}
	}
}

// P9.2: all that waits is safe, and nothing waits.
func TestSync(t *testing.T) {
	for _, c := range [][2]string{
		{"", ""},
		{"drop 2\n", ""},
		{"", "drop 2\n"},
		{"drop 2\n", "drop 3\n"},
		{"drop 2\nseal 1 2\n", "batch\nbatch 1 10 -5 2 3 4\nmerge 3 0\n"},
		{drops(api.MaxLog), ""},
		{"", drops(api.MaxLog)},
		{drops(api.MaxLog - 1), "drop 7\n"},
	} {
		d, e := disk.Sync(of(c[0], c[1]))
		if !holds(d, c[0]+c[1], "") || e != api.OK || disk.Check(d) != api.OK {
			t.Errorf("Sync of %q and %q: %s %d", c[0], c[1], told(d), e)
		}
		if again, e := disk.Sync(d); !disk.Same(again, d) || e != api.OK {
			t.Errorf("Sync of Sync of %q and %q: %s %d", c[0], c[1], told(again), e)
		}
	}
}

// P9.2: Check's error of what would be safe then, and nothing with it.
func TestSyncRefuses(t *testing.T) {
	full := drops(api.MaxLog)
	for _, c := range []struct {
		what, safe, wait string
		want             api.Errno
	}{
		{"a torn line", "", "drop 2", api.ErrTorn},
		{"a torn line behind a record", "drop 2\n", "drop 3\ndrop 4", api.ErrTorn},
		{"as much as may be, torn", "drop 2\n", strings.Repeat("x", api.MaxText-7), api.ErrTorn},
		{"a torn line, one too many", full, "drop 2", api.ErrTorn},
		{"a line of nothing", "drop 2\n", "\n", api.ErrText},
		{"a line of no record", "", "x\n", api.ErrText},
		{"a line of no record ahead of a torn one", "drop 2\n", "drop 3\nx\ndrop 4", api.ErrText},
		{"a line of no record, one too many", full, "x\n", api.ErrText},
		{"a record that may not be", "drop 2\n", "drop 3\nseal 4 0\n", api.ErrRange},
		{"too great a batch", "", "batch" + strings.Repeat(" 1 2 3", api.MaxBatch+1) + "\n", api.ErrMany},
		{"a record too many", full, "drop 2\n", api.ErrMany},
		{"a record too many, most of them waiting", "drop 2\n", full, api.ErrMany},
		{"a record too many, all waiting", "", full + "drop 2\n", api.ErrMany},
		{"a record too many ahead of no record", full, "drop 2\nx\n", api.ErrMany},
	} {
		if d, e := disk.Sync(of(c.safe, c.wait)); !isZero(d) || e != c.want {
			t.Errorf("Sync, %s: %s %d, want %d", c.what, told(d), e, c.want)
		}
	}
}

// P9.2: of what waits the first n bytes are left, wherever that tears it; what is safe stays.
func TestCrash(t *testing.T) {
	for what, d := range fine() {
		step := 1 + len(d.Wait)/100
		for n := 0; n <= len(d.Wait); n += step {
			out, e := disk.Crash(d, n)
			if !holds(out, string(d.Safe), string(d.Wait[:n])) || e != api.OK {
				t.Errorf("Crash at %d, %s: %s %d", n, what, told(out), e)
			}
		}
		if out, e := disk.Crash(d, len(d.Wait)); !disk.Same(out, d) || e != api.OK {
			t.Errorf("Crash behind all, %s: %s %d", what, told(out), e)
		}
	}
}

// P9.2: what waits counts alone, not what is safe, nor the room behind either.
func TestCrashRefuses(t *testing.T) {
	for what, d := range fine() {
		d.Wait = append(bytes.Clone(d.Wait), "drop 3\n"...)[:len(d.Wait)]
		for _, n := range []int{math.MinInt, -1, len(d.Wait) + 1, len(d.Wait) + len(d.Safe) + 1, math.MaxInt} {
			if out, e := disk.Crash(d, n); !isZero(out) || e != api.ErrRange {
				t.Errorf("Crash at %d, %s: %s %d, want ErrRange", n, what, told(out), e)
			}
		}
	}
}

// P9.2: the whole lines that what waits begins with are safe, the rest is gone, and all records are told.
func TestRecover(t *testing.T) {
	full := drops(api.MaxLog)
	for _, c := range []struct{ what, safe, wait, goesOver string }{
		{"nothing", "", "", ""},
		{"nothing waits", "drop 2\nseal 1 2\n", "", ""},
		{"one waits", "", "drop 2\n", "drop 2\n"},
		{"one is safe, one waits", "drop 2\n", "drop 3\n", "drop 3\n"},
		{"all kinds wait", "drop 2\n", "batch\nbatch 1 10 -5 2 3 4\nseal 1 2\nmerge 3 0\ndrop 2\n", "batch\nbatch 1 10 -5 2 3 4\nseal 1 2\nmerge 3 0\ndrop 2\n"},
		{"a torn one", "drop 2\n", "drop", ""},
		{"one without its line feed", "drop 2\n", "drop 3", ""},
		{"a torn one behind a whole one", "drop 2\n", "drop 3\ndrop 4", "drop 3\n"},
		{"a line feed alone", "drop 2\n", "\n", ""},
		{"a line of nothing ahead of a record", "drop 2\n", "\ndrop 3\n", ""},
		{"a line of nothing between records", "drop 2\n", "drop 3\n\ndrop 4\n", "drop 3\n"},
		{"no record", "drop 2\n", "x\n", ""},
		{"no record ahead of a record", "drop 2\n", "x\ndrop 3\n", ""},
		{"no record between records", "drop 2\n", "drop 3\ndrop 04\ndrop 5\n", "drop 3\n"},
		{"a carriage return", "drop 2\n", "drop 3\r\ndrop 4\n", ""},
		{"a record that may not be", "drop 2\n", "drop 3\ndrop 100002\ndrop 4\n", "drop 3\n"},
		{"too great a batch", "", "drop 3\nbatch" + strings.Repeat(" 1 2 3", api.MaxBatch+1) + "\ndrop 4\n", "drop 3\n"},
		{"any bytes", "drop 2\n", "\x00\xff\xfe", ""},
		{"as much as may be that is nothing", "drop 2\n", strings.Repeat("x", api.MaxText-7), ""},
		{"a record and as much as may be behind it", "", "drop 2\n" + strings.Repeat("\n", api.MaxText-7), "drop 2\n"},
		{"what makes no sense on a shelf", "", "merge 3 7\nbatch 1 5 5 1 5 5\n", "merge 3 7\nbatch 1 5 5 1 5 5\n"},
		{"as many as may be are safe", full, "", ""},
		{"as many as may be are safe, one waits", full, "drop 2\n", ""},
		{"as many as may be are safe, no record waits", full, "x\n", ""},
		{"as many as may be wait", "", full, full},
		{"one too many waits", "", full + "seal 1 2\n", full},
		{"many too many wait", "", full + full + full, full},
		{"room for one, two wait", drops(api.MaxLog - 1), "drop 7\ndrop 8\n", "drop 7\n"},
		{"room for one, one waits", drops(api.MaxLog - 1), "drop 7\n", "drop 7\n"},
		{"room for one, a torn one behind it", drops(api.MaxLog - 1), "drop 7\ndro", "drop 7\n"},
	} {
		d, l, e := disk.Recover(of(c.safe, c.wait))
		if !holds(d, c.safe+c.goesOver, "") || e != api.OK || disk.Check(d) != api.OK {
			t.Errorf("Recover, %s: %s %d", c.what, told(d), e)
		}
		tellsAll(t, c.what, l, c.safe+c.goesOver)
		if again, l, e := disk.Recover(d); !disk.Same(again, d) || e != api.OK {
			t.Errorf("Recover of Recover, %s: %s %d", c.what, told(again), e)
		} else {
			tellsAll(t, c.what+", again", l, c.safe+c.goesOver)
		}
	}
}

// tellsAll holds records against the lines of a text.
func tellsAll(t *testing.T, what string, l []api.Rec, want string) {
	t.Helper()
	got := ""
	for _, r := range l {
		got += textOf(t, r)
	}
	if got != want {
		t.Errorf("%s: the records %q, want %q", what, got, want)
	}
}

// putAll answers a disk with all of l behind what waits.
func putAll(t *testing.T, d api.Disk, l []api.Rec) api.Disk {
	t.Helper()
	for _, r := range l {
		var e api.Errno
		if d, e = disk.Put(d, r); e != api.OK {
			t.Fatalf("Put(%v): %d", r, e)
		}
	}
	return d
}

// P9.3: whatever is kept, what was synced is there; of what wasn't, those records that are kept whole, and no other.
func TestWhatWasSyncedIsThere(t *testing.T) {
	l := mixed()
	for synced := range len(l) + 1 {
		d, e := disk.Sync(putAll(t, api.Disk{}, l[:synced]))
		if e != api.OK {
			t.Fatalf("Sync of %d: %d", synced, e)
		}
		d = putAll(t, d, l[synced:])
		whole, end := synced, 0
		for n := range len(d.Wait) + 1 {
			if whole < len(l) && n == end+len(textOf(t, l[whole])) {
				whole, end = whole+1, n
			}
			k, e := disk.Crash(d, n)
			if e != api.OK {
				t.Fatalf("%d synced, %d bytes kept: %d", synced, n, e)
			}
			r, got, e := disk.Recover(k)
			if !slices.EqualFunc(got, l[:whole], note.Same) || len(r.Wait) != 0 || e != api.OK {
				t.Fatalf("%d synced, %d bytes kept: %d records, %s %d, want %d", synced, n, len(got), told(r), e, whole)
			}
		}
		if whole != len(l) {
			t.Fatalf("%d synced: only %d were whole at the end", synced, whole)
		}
	}
}

func dice(seed uint32) func(n int) int {
	return func(n int) int {
		seed = seed*1664525 + 1013904223
		return int(seed>>8) % n
	}
}

// P9.3: the same on long walks, with crashes and recoveries between, up to more than may be.
func TestLongWalks(t *testing.T) {
	throw := dice(9)
	full := 0
	for range 300 {
		var d api.Disk
		var safe, wait []api.Rec // what the disk must hold
		for range 200 {
			switch throw(8) {
			case 0:
				s, e := disk.Sync(d)
				if len(safe)+len(wait) > api.MaxLog {
					if !isZero(s) || e != api.ErrMany {
						t.Fatalf("Sync of %d and %d: %s %d, want ErrMany", len(safe), len(wait), told(s), e)
					}
					full++
					continue
				}
				if e != api.OK {
					t.Fatalf("Sync of %d and %d: %d", len(safe), len(wait), e)
				}
				d, safe, wait = s, append(safe, wait...), nil
			case 1:
				k, e := disk.Crash(d, throw(len(d.Wait)+1))
				if e != api.OK {
					t.Fatalf("Crash: %d", e)
				}
				r, l, e := disk.Recover(k)
				all := slices.Concat(safe, wait)
				if e != api.OK || len(l) < len(safe) || len(l) > min(len(all), api.MaxLog) || !slices.EqualFunc(l, all[:len(l)], note.Same) {
					t.Fatalf("Recover of %d and %d: %d records, %d", len(safe), len(wait), len(l), e)
				}
				d, safe, wait = r, l, nil
			default:
				r := mixed()[throw(len(mixed()))]
				p, e := disk.Put(d, r)
				if e != api.OK {
					t.Fatalf("Put(%v): %d", r, e)
				}
				d, wait = p, append(wait, r)
			}
		}
	}
	if full == 0 {
		t.Error("no log was ever full")
	}
}

// answers calls everything with a disk, and hands what is answered to f.
func answers(d api.Disk, n int, r api.Rec, f func(what string, d api.Disk, l []api.Rec)) {
	disk.Check(d)
	disk.Same(d, d)
	p, _ := disk.Put(d, r)
	f("Put", p, nil)
	s, _ := disk.Sync(d)
	f("Sync", s, nil)
	c, _ := disk.Crash(d, n)
	f("Crash", c, nil)
	v, l, _ := disk.Recover(d)
	f("Recover", v, l)
}

// roomy answers lists that lie in one memory, one behind the other, with room behind, and that memory.
func roomy(safe, wait string) (api.Disk, []byte) {
	whole := []byte(safe + wait + strings.Repeat("r", 300))
	return api.Disk{Safe: whole[:len(safe)], Wait: whole[len(safe) : len(safe)+len(wait)]}, whole
}

// P2: what is handed in is only read, and so is the room behind it, though it be what waits.
func TestOnlyReads(t *testing.T) {
	for _, c := range [][2]string{
		{"", ""}, {"drop 2\n", ""}, {"", "drop 2\n"}, {"drop 2\n", "drop 3\nbatch 1 2 3\n"}, {"drop 2\n", "drop 3\ndro"},
		{"drop 2", "x"}, {"x\n", "y"}, {drops(api.MaxLog), "drop 2\n"}, {"drop 2\n", "x\n"},
	} {
		d, whole := roomy(c[0], c[1])
		before := bytes.Clone(whole)
		entries := slices.Repeat([]api.Entry{{Series: 1, T: 2, V: 3}}, 5)
		r := api.Rec{Kind: api.RBatch, E: entries[:2]}
		answers(d, len(c[1])/2, r, func(string, api.Disk, []api.Rec) {})
		if !bytes.Equal(whole, before) {
			t.Errorf("%q and %q became %q", c[0], c[1], whole[:len(c[0])+len(c[1])])
		}
		for _, x := range entries {
			if x != (api.Entry{Series: 1, T: 2, V: 3}) {
				t.Errorf("the entries of a record became %v", entries)
			}
		}
	}
}

// P2: no list of an answer shares memory with what was handed in, or with another list.
func TestAnswersAreNew(t *testing.T) {
	const safe, wait = "drop 2\nbatch 1 2 3\n", "batch 1 3 4\nbatch 2 1 1 3 1 1\n"
	r := api.Rec{Kind: api.RBatch, E: []api.Entry{{Series: 1, T: 2, V: 3}}}
	d, whole := roomy(safe, wait)
	before := bytes.Clone(whole)
	wants := map[string][2]string{
		"Put": {safe, wait + "batch 1 2 3\n"}, "Sync": {safe + wait, ""}, "Crash": {safe, wait[:20]}, "Recover": {safe + wait, ""},
	}
	type answer struct {
		what string
		d    api.Disk
		l    []api.Rec
	}
	var kept []answer
	answers(d, 20, r, func(what string, d api.Disk, l []api.Rec) { kept = append(kept, answer{what, d, l}) })
	clear(whole)
	clear(r.E)
	for _, a := range kept {
		if want := wants[a.what]; !holds(a.d, want[0], want[1]) {
			t.Errorf("%s became %s when what was handed in was cleared", a.what, told(a.d))
		}
		clear(a.d.Safe[:cap(a.d.Safe)])
		if string(a.d.Wait) != wants[a.what][1] {
			t.Errorf("%s: what waits became %q when what is safe was cleared", a.what, a.d.Wait)
		}
		clear(a.d.Wait[:cap(a.d.Wait)])
	}
	recs := kept[len(kept)-1].l
	tellsAll(t, "Recover when all bytes were cleared", recs, safe+wait)
	for i, want := range []string{"drop 2\n", "batch 1 2 3\n", "batch 1 3 4\n", "batch 2 1 1 3 1 1\n"} {
		if s := textOf(t, recs[i]); s != want {
			t.Errorf("record %d became %q when the others were cleared", i, s)
		}
		clear(recs[i].E[:cap(recs[i].E)])
	}
	d, whole = roomy(safe, wait)
	answers(d, 20, api.Rec{Kind: api.RDrop}, func(_ string, a api.Disk, _ []api.Rec) {
		clear(a.Safe[:cap(a.Safe)])
		clear(a.Wait[:cap(a.Wait)])
	})
	if !bytes.Equal(whole, before) {
		t.Error("what was handed in changed when the answers were cleared")
	}
}

// P2: two fields that are one list are parted.
func TestFieldsAreParted(t *testing.T) {
	one := []byte("drop 2\n")
	d, e := disk.Crash(api.Disk{Safe: one, Wait: one}, len(one))
	if e != api.OK {
		t.Fatal(e)
	}
	clear(d.Safe[:cap(d.Safe)])
	if string(d.Wait) != "drop 2\n" || string(one) != "drop 2\n" {
		t.Errorf("what waits became %q, what was handed in %q", d.Wait, one)
	}
}

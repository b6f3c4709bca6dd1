package db

import (
	"bytes"
	"fmt"
	"math"
	"slices"
	"strings"
	"testing"

	"lysimeter/api"
	"lysimeter/disk"
)

func check[T comparable](t *testing.T, promise, name string, got, want T) {
	t.Helper()
	if got != want {
		t.Errorf("%s: %s: %#v, want %#v", promise, name, got, want)
	}
}

// of is labels out of names and values, by turns.
func of(words ...string) []api.Label {
	var l []api.Label
	for i := 0; i+1 < len(words); i += 2 {
		l = append(l, api.Label{Name: words[i], Value: words[i+1]})
	}
	return l
}

// row is one of the series that has the one label a.
func row(a string, t, v int) api.Row {
	return api.Row{Labels: of("a", a), Sample: api.Sample{T: t, V: v}}
}

// opened is the database of the disk, which there must be.
func opened(t *testing.T, promise string, d *disk.Disk, cfg api.Config) *DB {
	t.Helper()
	b, errno := Open(d, cfg)
	if errno != api.OK {
		t.Fatalf("%s: Open: %v", promise, errno)
	}
	check(t, promise, "Dead", b.Dead(), false)
	return b
}

func all(t *testing.T, errnos ...api.Errno) {
	t.Helper()
	for i, e := range errnos {
		if e != api.OK {
			t.Fatalf("call %d: %v", i, e)
		}
	}
}

// seriesShown is series as a text, which no others have.
func seriesShown(l []api.Series) string {
	var out strings.Builder
	for _, s := range l {
		fmt.Fprintf(&out, "%q:", s.Labels)
		for _, x := range s.Samples {
			fmt.Fprintf(&out, " %d=%d", x.T, x.V)
		}
		out.WriteString("; ")
	}
	return out.String()
}

// shown is all that a database tells, as a text.
func shown(b *DB) string {
	var out strings.Builder
	l, errno := b.Query(nil, math.MinInt, math.MaxInt)
	fmt.Fprintf(&out, "%d %d %s", errno, b.Low(), seriesShown(l))
	for _, s := range l {
		newest, ok := b.Newest(s.Labels)
		fmt.Fprintf(&out, "%d %v ", newest, ok)
	}
	for _, n := range b.Notes() {
		fmt.Fprintf(&out, "%d %d %s ", n.Kind, len(n.Bytes), n.Bytes)
	}
	return out.String()
}

// queried is what Query of all series tells.
func queried(t *testing.T, b *DB, from, to int) string {
	t.Helper()
	l, errno := b.Query(nil, from, to)
	check(t, "P2003", "Query", errno, api.OK)
	return seriesShown(l)
}

func notesShown(b *DB) string {
	var out strings.Builder
	for _, n := range b.Notes() {
		fmt.Fprintf(&out, "%d=%s ", n.Kind, n.Bytes)
	}
	return out.String()
}

// diskShown tells the names and bytes of a disk with power.
func diskShown(d *disk.Disk) string {
	var out strings.Builder
	for _, name := range d.List() {
		b, _ := d.Read(name)
		fmt.Fprintf(&out, "%s=%q ", name, b)
	}
	return out.String()
}

// everyTime is a Query's span that leaves nothing out.
const everyTime = math.MaxInt

func TestExamples(t *testing.T) {
	d := disk.New(1 << 20)
	b := opened(t, "examples", d, api.Config{})
	all(t, b.Write([]api.Row{row("a", 1, 1)}), b.Flush(), b.Write([]api.Row{row("a", 1, 2)}))
	check(t, "examples", "the newer value", queried(t, b, -everyTime, everyTime), seriesShown([]api.Series{{Labels: of("a", "a"), Samples: []api.Sample{{T: 1, V: 2}}}}))
	all(t, b.Retain(5))
	check(t, "examples", "below the watermark", b.Write([]api.Row{row("a", 4, 1)}), api.ErrOld)
}

func TestP2001Open(t *testing.T) {
	b, errno := Open(nil, api.Config{Window: 1, Hold: 1})
	check(t, "P2001", "nil", errno, api.ErrArg)
	check(t, "P2001", "nil: database", b, nil)
	for _, quota := range []int{0, 1 << 16, api.MaxQuota} {
		d := disk.New(quota)
		for range 3 {
			b = opened(t, "P2001", d, api.Config{})
			check(t, "P2001", "of an empty disk", shown(b), "0 -9007199254740992 ")
			check(t, "P2001", "watermark", b.Low(), -api.MaxTime)
			_, there := b.Newest(of("a", "a"))
			check(t, "P2001", "Newest", there, false)
		}
	}
}

// TestP2001Fails lets each step of an Open fail, of an empty disk and of those that a flush has left behind which failed at any of its steps.
func TestP2001Fails(t *testing.T) {
	most := 0
	for at := -1; ; at++ {
		for n := 0; ; n++ {
			d, want := disk.New(1<<20), "0 -9007199254740992 "
			if at >= 0 {
				want = halfFlushed(t, d, at)
			}
			if want == "" {
				check(t, "P2001", "an Open puts away what it finds", most > 5, true)
				return
			}
			d.Fault(n)
			b, errno := Open(d, api.Config{})
			if errno == api.OK {
				check(t, "P2001", "an Open takes steps", n > 1, true)
				most = max(most, n)
				break
			}
			check(t, "P2001", "fault", errno, api.ErrIO)
			check(t, "P2001", "fault: database", b, nil)
			d.Fuse(min(n, 1))
			b, errno = Open(d, api.Config{})
			check(t, "P2001", "fuse", errno, api.ErrOff)
			b, errno = Open(d, api.Config{})
			check(t, "P2001", "no power", errno, api.ErrOff)
			check(t, "P2001", "no power: database", b, nil)
			d.Crash(nil)
			check(t, "P2004", "behind both", shown(opened(t, "P2004", d, api.Config{})), want)
		}
	}
}

// halfFlushed leaves a database on the disk whose second flush failed at a step, and tells what the database has; nothing, if the flush has no such step.
func halfFlushed(t *testing.T, d *disk.Disk, at int) string {
	t.Helper()
	b := opened(t, "P2001", d, api.Config{})
	all(t, b.Write([]api.Row{row("a", 1, 1)}), b.Note(1, []byte("n")), b.Flush())
	all(t, b.Write([]api.Row{row("a", 2, 2)}), b.Retain(1), b.Note(1, []byte("o")))
	d.Fault(at)
	if b.Flush() == api.OK {
		return ""
	}
	return shown(b)
}

func TestP2002WriteWrong(t *testing.T) {
	d := disk.New(1 << 22)
	b := opened(t, "P2001", d, api.Config{Window: 10})
	all(t, b.Write([]api.Row{row("old", 100, 1)}), b.Retain(20))
	many := make([]api.Row, api.MaxBatch+1)
	for i := range many {
		many[i] = row("m", 1000+i, 0)
	}
	noLabel := api.Row{Sample: api.Sample{T: 50}}
	for i, x := range []struct {
		rows []api.Row
		want api.Errno
	}{
		{nil, api.ErrArg},
		{[]api.Row{}, api.ErrArg},
		{many, api.ErrLong},
		{append([]api.Row{row("a", 0, 0)}, many...), api.ErrLong},
		{[]api.Row{noLabel}, api.ErrLabel},
		{[]api.Row{{Labels: of("", "x"), Sample: api.Sample{T: 50}}}, api.ErrLabel},
		{[]api.Row{{Labels: of("a", "x", "a", "y"), Sample: api.Sample{T: 50}}}, api.ErrLabel},
		{[]api.Row{row("x", api.MaxTime+1, 0)}, api.ErrTime},
		{[]api.Row{row("x", -api.MaxTime-1, 0)}, api.ErrTime},
		{[]api.Row{row("x", math.MinInt, 0)}, api.ErrTime},
		{[]api.Row{row("x", 19, 0)}, api.ErrOld},
		{[]api.Row{row("x", -api.MaxTime, 0)}, api.ErrOld},
		{[]api.Row{row("old", 89, 0)}, api.ErrOld},
		{[]api.Row{row("x", 30, 0), row("x", 19, 0)}, api.ErrOld},
		{[]api.Row{row("x", 31, 0), row("x", 20, 0)}, api.ErrOld},
		// Row by row, in order, and in each the watermark behind the labels and the time's bounds.
		{[]api.Row{{Labels: nil, Sample: api.Sample{T: 19}}}, api.ErrLabel},
		{[]api.Row{noLabel, row("x", 19, 0)}, api.ErrLabel},
		{[]api.Row{row("x", 19, 0), noLabel}, api.ErrOld},
		{[]api.Row{row("x", api.MaxTime+1, 0), row("x", 19, 0)}, api.ErrTime},
		{[]api.Row{row("x", -api.MaxTime-1, 0), row("x", 19, 0)}, api.ErrTime},
		{[]api.Row{row("x", 19, 0), row("x", api.MaxTime+1, 0)}, api.ErrOld},
		{[]api.Row{row("x", 19, 0), row("x", -api.MaxTime-1, 0)}, api.ErrOld},
		{[]api.Row{row("old", 89, 0), noLabel}, api.ErrOld},
		{[]api.Row{row("x", 50, 0), row("y", 50, 0), row("x", 19, 0), noLabel}, api.ErrOld},
	} {
		was, steps := shown(b), d.Steps()
		check(t, "P2002", fmt.Sprint("Write ", i), b.Write(x.rows), x.want)
		check(t, "P2002", fmt.Sprint("Write ", i, ": what there is"), shown(b), was)
		check(t, "P2002", fmt.Sprint("Write ", i, ": steps"), d.Steps(), steps)
		check(t, "P2002", fmt.Sprint("Write ", i, ": Dead"), b.Dead(), false)
	}
	all(t, b.Write([]api.Row{row("x", 30, 0), row("x", 20, 0)}), b.Write([]api.Row{row("old", 90, 0)}), b.Write(many[1:]))
}

// TestP2002Series: there is room for so many series, those of flushed and reopened ones among them, and the watermark makes room again.
func TestP2002Series(t *testing.T) {
	d := disk.New(api.MaxQuota)
	b := opened(t, "P2001", d, api.Config{})
	for i := range api.MaxSeries {
		all(t, b.Write([]api.Row{row(fmt.Sprint(i), i, 0)}))
		if i == 500 {
			all(t, b.Flush())
			b = opened(t, "P2001", d, api.Config{Hold: 20})
		}
	}
	tooMany := []api.Row{row("more", 5000, 0)}
	check(t, "P2002", "one series more", b.Write(tooMany), api.ErrLong)
	check(t, "P2002", "behind one that is there", b.Write([]api.Row{row("999", 999, 7), tooMany[0]}), api.ErrLong)
	check(t, "P2002", "behind one that comes too late", b.Write([]api.Row{row("999", 998, 7), tooMany[0]}), api.ErrOld)
	all(t, b.Retain(1))
	check(t, "P2002", "two series more", b.Write([]api.Row{tooMany[0], row("evenmore", 5000, 0)}), api.ErrLong)
	check(t, "P2002", "behind the last that has room", b.Write([]api.Row{tooMany[0], row("evenmore", 0, 0)}), api.ErrOld)
	all(t, b.Write(tooMany))
	check(t, "P2002", "the watermark, ahead of too many series", b.Write([]api.Row{row("evenmore", 0, 0)}), api.ErrOld)
	was := shown(b)
	b = opened(t, "P2001", d, api.Config{})
	check(t, "P2005", "reopened", shown(b), was)
	check(t, "P2002", "one series more", b.Write([]api.Row{row("evenmore", 5000, 0)}), api.ErrLong)
}

// TestP2002Window: below 0 it is 0, and it hangs on the newest sample that there is, in memory or on the disk.
func TestP2002Window(t *testing.T) {
	for _, x := range []struct{ window, late int }{
		{math.MinInt, 0}, {-1, 0}, {0, 0}, {1, 1}, {40, 40}, {api.MaxTime, api.MaxTime}, {math.MaxInt, api.MaxTime},
	} {
		d := disk.New(1 << 20)
		b := opened(t, "P2001", d, api.Config{Window: x.window})
		all(t, b.Write([]api.Row{row("a", 100, 1)}))
		for range 3 {
			check(t, "P2002", fmt.Sprint(x.window, ": in the window"), b.Write([]api.Row{row("a", 100-x.late, 2)}), api.OK)
			check(t, "P2002", fmt.Sprint(x.window, ": behind it"), b.Write([]api.Row{row("a", max(99-x.late, -api.MaxTime), 2)}), api.ErrOld)
			all(t, b.Flush())
			b = opened(t, "P2001", d, api.Config{Window: x.window})
		}
	}
}

func TestP2002Retain(t *testing.T) {
	d := disk.New(1 << 20)
	b := opened(t, "P2001", d, api.Config{})
	all(t, b.Write([]api.Row{row("a", 1, 1), row("a", 5, 2), row("b", 4, 3)}))
	for _, low := range []int{-api.MaxTime - 1, api.MaxTime + 1, math.MinInt, math.MaxInt} {
		check(t, "P2002", fmt.Sprint("Retain ", low), b.Retain(low), api.ErrTime)
	}
	was := shown(b)
	all(t, b.Retain(-api.MaxTime))
	check(t, "P2002", "Retain of the least time", shown(b), was)
	all(t, b.Retain(5), b.Retain(4), b.Retain(5))
	check(t, "P2002", "Low", b.Low(), 5)
	check(t, "P2002", "what is left", queried(t, b, -everyTime, everyTime), seriesShown([]api.Series{{Labels: of("a", "a"), Samples: []api.Sample{{T: 5, V: 2}}}}))
	_, there := b.Newest(of("a", "b"))
	check(t, "P2002", "a series that is gone", there, false)
	all(t, b.Write([]api.Row{row("b", 5, 1)}))
	check(t, "P2002", "below it", b.Write([]api.Row{row("b", 4, 1)}), api.ErrOld)
	d.Crash(nil)
	b = opened(t, "P2004", d, api.Config{})
	check(t, "P2002", "Low, reopened", b.Low(), 5)
	all(t, b.Retain(api.MaxTime), b.Write([]api.Row{row("c", api.MaxTime, 9)}), b.Flush())
	check(t, "P2002", "below the last time", b.Write([]api.Row{row("c", api.MaxTime-1, 1)}), api.ErrOld)
	for range 2 {
		check(t, "P2002", "the last time is left", queried(t, b, -everyTime, everyTime), seriesShown([]api.Series{{Labels: of("a", "c"), Samples: []api.Sample{{T: api.MaxTime, V: 9}}}}))
		check(t, "P2002", "Low of the last time", b.Low(), api.MaxTime)
		b = opened(t, "P2004", d, api.Config{})
	}
}

func TestP2002Note(t *testing.T) {
	d := disk.New(1 << 22)
	b := opened(t, "P2001", d, api.Config{})
	long := bytes.Repeat([]byte("l"), 65537)
	for _, kind := range []int{0, -1, 256, 257, math.MinInt, math.MaxInt} {
		check(t, "P2002", fmt.Sprint("kind ", kind), b.Note(kind, nil), api.ErrArg)
		check(t, "P2002", fmt.Sprint("kind, ahead of too long ", kind), b.Note(kind, long), api.ErrArg)
	}
	check(t, "P2002", "too long", b.Note(1, long), api.ErrLong)
	check(t, "P2003", "no notes", len(b.Notes()), 0)
	all(t, b.Note(255, []byte("last")), b.Note(7, nil), b.Note(1, []byte("one")), b.Note(255, []byte("the last")), b.Note(1, []byte("1")), b.Note(200, long[:65536]))
	for range 3 {
		want := "1=1 7= 200=" + string(long[:65536]) + " 255=the last "
		check(t, "P2003", "Notes", notesShown(b), want)
		all(t, b.Flush())
		check(t, "P2005", "Notes, flushed", notesShown(b), want)
		b = opened(t, "P2001", d, api.Config{})
	}
	all(t, b.Note(200, []byte{}))
	check(t, "P2003", "Notes", notesShown(b), "1=1 7= 200= 255=the last ")
}

// TestP2002AllNotes keeps the longest notes of all kinds.
func TestP2002AllNotes(t *testing.T) {
	d := disk.New(api.MaxQuota)
	b := opened(t, "P2001", d, api.Config{})
	note := make([]byte, 65536)
	for kind := 1; kind <= 255; kind++ {
		note[0] = byte(kind)
		all(t, b.Note(kind, note))
	}
	for range 2 {
		all(t, b.Flush())
		b = opened(t, "P2001", d, api.Config{})
		l := b.Notes()
		check(t, "P2003", "kinds", len(l), 255)
		for i, n := range l {
			note[0] = byte(i + 1)
			check(t, "P2003", "kind", n.Kind, i+1)
			check(t, "P2003", "bytes", bytes.Equal(n.Bytes, note), true)
		}
		note[0] = 9
		all(t, b.Note(9, note))
	}
}

// dead holds all that a dead database tells against what it told when it was not.
func dead(t *testing.T, name string, b *DB, was string) {
	t.Helper()
	check(t, "P2002", name+": Dead", b.Dead(), true)
	check(t, "P2003", name+": what it tells", shown(b), was)
	check(t, "P2002", name+": Write", b.Write([]api.Row{row("d", 1<<40, 1)}), api.ErrDead)
	check(t, "P2002", name+": Write of nothing", b.Write(nil), api.ErrDead)
	check(t, "P2002", name+": Retain", b.Retain(1<<40), api.ErrDead)
	check(t, "P2002", name+": Retain of no time", b.Retain(math.MaxInt), api.ErrDead)
	check(t, "P2002", name+": Retain of nothing", b.Retain(-api.MaxTime), api.ErrDead)
	check(t, "P2002", name+": Note", b.Note(1, nil), api.ErrDead)
	check(t, "P2002", name+": Note of no kind", b.Note(0, nil), api.ErrDead)
	check(t, "P2002", name+": Note of too much", b.Note(1, make([]byte, 65537)), api.ErrDead)
	check(t, "P2002", name+": Flush", b.Flush(), api.ErrDead)
	check(t, "P2002", name+": Compact", b.Compact(), api.ErrDead)
	check(t, "P2003", name+": what it tells", shown(b), was)
}

// TestP2002Fails lets each step of each call fail in either way: the database is dead, and tells what it told.
func TestP2002Fails(t *testing.T) {
	calls := map[string]func(b *DB) api.Errno{
		"Write":   func(b *DB) api.Errno { return b.Write([]api.Row{row("a", 20, 1), row("n", 9, 9)}) },
		"Retain":  func(b *DB) api.Errno { return b.Retain(8) },
		"Note":    func(b *DB) api.Errno { return b.Note(1, []byte("new")) },
		"Flush":   (*DB).Flush,
		"Compact": (*DB).Compact,
	}
	lay := []func(*disk.Disk, int){(*disk.Disk).Fault, (*disk.Disk).Fuse}
	for name, call := range calls {
		for n := 0; ; n++ {
			failed := 0
			for i, want := range []api.Errno{api.ErrIO, api.ErrOff} {
				d := disk.New(1 << 20)
				b := opened(t, "P2001", d, api.Config{Hold: 2})
				for at := range 11 {
					all(t, b.Write([]api.Row{row("a", at, at)}), b.Note(1, []byte{'a' + byte(at)}))
				}
				was := shown(b)
				lay[i](d, n)
				errno := call(b)
				if errno == api.OK {
					continue
				}
				failed++
				check(t, "P2002", name, errno, want)
				dead(t, name, b, was)
			}
			if failed == 0 {
				check(t, "P2002", name+" takes steps", n > 1, true)
				break
			}
		}
	}
}

// TestP2003NoPower: a database whose power is gone tells all that it told, and one that needs no step does none.
func TestP2003NoPower(t *testing.T) {
	d := disk.New(1 << 20)
	b := opened(t, "P2001", d, api.Config{})
	all(t, b.Write([]api.Row{row("a", 1, 1), row("b", 2, 2)}), b.Note(3, []byte("n")), b.Retain(0), b.Flush())
	was := shown(b)
	d.Fuse(0)
	check(t, "P2002", "a step", d.SyncDir(), api.ErrOff)
	check(t, "P2003", "no power", shown(b), was)
	l, w, errno := b.Roll(nil, 0, 9, 2)
	check(t, "P2003", "Roll", errno, api.OK)
	check(t, "P2003", "Roll: series", len(l), 2)
	check(t, "P2003", "Roll: buckets", len(w), 2)
	check(t, "P2002", "Write", b.Write([]api.Row{row("a", 1, 1)}), api.ErrOff)
	dead(t, "no power", b, was)
}

func TestP2003Query(t *testing.T) {
	b := opened(t, "P2001", disk.New(1<<20), api.Config{Window: 99})
	both := func(t, v int) api.Row {
		return api.Row{Labels: of("b", "2", "a", "x"), Sample: api.Sample{T: t, V: v}}
	}
	all(t, b.Write([]api.Row{row("y", 5, 1), row("x", 7, 2), both(3, 4), row("x", 3, 3), row("x", 7, 5), both(9, 6)}))
	for i, x := range []struct {
		m        []api.Match
		from, to int
		want     string
	}{
		{nil, math.MinInt, math.MaxInt, "x 3=3 7=5; x2 3=4 9=6; y 5=1; "},
		{nil, 3, 7, "x 3=3; x2 3=4; y 5=1; "},
		{nil, 4, 8, "x 7=5; y 5=1; "},
		{nil, 5, 5, ""},
		{nil, 9, 3, ""},
		{nil, math.MaxInt, math.MinInt, ""},
		{nil, 10, 99, ""},
		{[]api.Match{{Kind: api.MEqual, Name: "a", Value: "x"}}, 0, 10, "x 3=3 7=5; x2 3=4 9=6; "},
		{[]api.Match{{Kind: api.MEqual, Name: "a", Value: "x"}, {Kind: api.MHas, Name: "b"}}, 0, 10, "x2 3=4 9=6; "},
		{[]api.Match{{Kind: api.MNot, Name: "b", Value: "2"}}, 0, 6, "x 3=3; y 5=1; "},
		{[]api.Match{{Kind: api.MHas, Name: "none"}}, 0, 10, ""},
	} {
		l, errno := b.Query(x.m, x.from, x.to)
		check(t, "P2003", fmt.Sprint("Query ", i), errno, api.OK)
		var out strings.Builder
		for _, s := range l {
			for _, n := range s.Labels {
				out.WriteString(n.Value)
			}
			for _, p := range s.Samples {
				fmt.Fprintf(&out, " %d=%d", p.T, p.V)
			}
			out.WriteString("; ")
		}
		check(t, "P2003", fmt.Sprint("Query ", i), out.String(), x.want)
	}
	for i, x := range []struct {
		m    []api.Match
		want api.Errno
	}{
		{make([]api.Match, api.MaxMatch+1), api.ErrLong},
		{[]api.Match{{}}, api.ErrLabel},
		{[]api.Match{{Kind: api.MHas, Name: "a"}, {Kind: api.MHas, Name: "0"}}, api.ErrLabel},
	} {
		l, errno := b.Query(x.m, 0, 10)
		check(t, "P2003", fmt.Sprint("Query of wrong matchers ", i), errno, x.want)
		check(t, "P2003", fmt.Sprint("Query of wrong matchers ", i), len(l), 0)
		for _, width := range []int{1, 0, -1, math.MaxInt} {
			l, w, errno := b.Roll(x.m, 0, 10, width)
			check(t, "P2003", fmt.Sprint("Roll of wrong matchers ", i), errno, x.want)
			check(t, "P2003", fmt.Sprint("Roll of wrong matchers ", i), len(l)+len(w), 0)
		}
	}
}

// rolled is what a Roll of all series tells, as a text.
func rolled(t *testing.T, b *DB, from, to, width int) string {
	t.Helper()
	l, w, errno := b.Roll(nil, from, to, width)
	check(t, "P2003", "Roll", errno, api.OK)
	check(t, "P2003", "Roll: a list for each series", len(w), len(l))
	var out strings.Builder
	for i, s := range l {
		check(t, "P2003", "Roll: without samples", len(s.Samples), 0)
		fmt.Fprint(&out, s.Labels[0].Value)
		for _, x := range w[i] {
			fmt.Fprintf(&out, " %d:%d,%d,%d,%d,%d", x.T, x.Count, x.Sum, x.Min, x.Max, x.Last)
		}
		out.WriteString("; ")
	}
	return out.String()
}

func TestP2003Roll(t *testing.T) {
	b := opened(t, "P2001", disk.New(1<<20), api.Config{})
	all(t, b.Write([]api.Row{row("x", -1, 4), row("x", 0, 1), row("x", 9, 3), row("x", 10, 2), row("y", 25, 7), row("z", -api.MaxTime, 5), row("z", api.MaxTime, 6)}))
	const least, most = "z -9007199254740992:1,5,5,5,5; ", "z 9007199254740992:1,6,6,6,6; "
	for _, x := range []struct {
		from, to, width int
		want            string
	}{
		{5, 11, 10, "x 0:2,4,1,3,3 10:1,2,2,2,2; "},
		{5, 10, 10, "x 0:2,4,1,3,3; "},
		{0, 20, 10, "x 0:2,4,1,3,3 10:1,2,2,2,2; "},
		{-1, 1, 10, "x -10:1,4,4,4,4 0:2,4,1,3,3; "},
		{9, 5, 10, "x 0:2,4,1,3,3; "}, // the words' plain meaning: from 0 up to 10
		{10, 5, 10, ""},
		{20, 21, 10, "y 20:1,7,7,7,7; "},
		{5, 11, 1, "x 9:1,3,3,3,3 10:1,2,2,2,2; "},
		{-7, 30, 100, "x -100:1,4,4,4,4 0:3,6,1,3,2; y 0:1,7,7,7,7; "},
		{math.MinInt, -1, 1, least},
		{30, math.MaxInt, 1, most},
		{30, math.MaxInt - 1, 10, "z 9007199254740990:1,6,6,6,6; "},
		{math.MinInt, math.MinInt, 7, ""},
		{math.MinInt, math.MinInt + 1, 7, ""},
		{math.MaxInt, math.MaxInt, 7, ""},
		{math.MaxInt, math.MinInt, api.MaxTime, ""},
		{math.MinInt, math.MaxInt, api.MaxTime, "x -9007199254740992:1,4,4,4,4 0:3,6,1,3,2; y 0:1,7,7,7,7; z -9007199254740992:1,5,5,5,5 9007199254740992:1,6,6,6,6; "},
		{api.MaxTime, api.MaxTime + 1, api.MaxTime, most},
		{api.MaxTime, api.MaxTime + 1, api.MaxTime - 1, "z 9007199254740991:1,6,6,6,6; "},
	} {
		check(t, "P2003", fmt.Sprint("Roll ", x.from, x.to, x.width), rolled(t, b, x.from, x.to, x.width), x.want)
	}
	for _, width := range []int{0, -1, math.MinInt, api.MaxTime + 1, math.MaxInt} {
		l, w, errno := b.Roll(nil, 0, 10, width)
		check(t, "P2003", fmt.Sprint("width ", width), errno, api.ErrArg)
		check(t, "P2003", fmt.Sprint("width ", width), len(l)+len(w), 0)
	}
	all(t, b.Retain(9))
	check(t, "P2003", "above the watermark", rolled(t, b, 0, 20, 10), "x 0:1,3,3,3,3 10:1,2,2,2,2; ")
}

func TestP2003Newest(t *testing.T) {
	d := disk.New(1 << 20)
	b := opened(t, "P2001", d, api.Config{Window: 9})
	all(t, b.Write([]api.Row{row("x", 5, 1), row("x", 3, 1), {Labels: of("b", "2", "a", "1"), Sample: api.Sample{T: -4}}}))
	for range 2 {
		for i, x := range []struct {
			l     []api.Label
			want  int
			there bool
		}{
			{of("a", "x"), 5, true},
			{of("a", "1", "b", "2"), -4, true},
			{of("b", "2", "a", "1"), -4, true},
			{of("a", "1"), 0, false},
			{nil, 0, false},
			{of("a", ""), 0, false},
		} {
			newest, there := b.Newest(x.l)
			check(t, "P2003", fmt.Sprint("Newest ", i), newest, x.want)
			check(t, "P2003", fmt.Sprint("Newest ", i), there, x.there)
		}
		all(t, b.Flush())
		b = opened(t, "P2001", d, api.Config{})
	}
}

// TestP2005 writes the same in many ways: what is told is the same.
func TestP2005(t *testing.T) {
	script := func(b *DB, between func(i int)) {
		for i := range 90 {
			rows := []api.Row{row(fmt.Sprint(i%4), i, i), row(fmt.Sprint(i%3), max(i-5, 0), -i), row(fmt.Sprint(i%3), max(i-5, 0), i*i)}
			if b.Write(rows) != api.OK || i%10 == 9 && b.Retain(i-20) != api.OK || i%7 == 0 && b.Note(1+i%5, []byte(fmt.Sprint(i))) != api.OK {
				t.Fatalf("P2002: call %d", i)
			}
			between(i)
		}
	}
	b := opened(t, "P2001", disk.New(1<<22), api.Config{Window: 20})
	script(b, func(int) {})
	want := shown(b)
	for _, hold := range []int{math.MinInt, -1, 0, 1, 2, 3, 7, 100, math.MaxInt} {
		for way := range 5 {
			d := disk.New(1 << 22)
			b := opened(t, "P2001", d, api.Config{Window: 20, Hold: hold})
			script(b, func(i int) {
				if way&1 > 0 && i%5 == 0 {
					all(t, b.Flush())
				}
				if way&2 > 0 && i%8 == 0 {
					all(t, b.Compact())
				}
				if way&4 > 0 && i%6 == 0 {
					*b = *opened(t, "P2001", d, api.Config{Window: 20 + way, Hold: hold + way})
				}
			})
			check(t, "P2005", fmt.Sprint("Hold ", hold, ", way ", way), shown(b), want)
			check(t, "P2005", fmt.Sprint("Hold ", hold, ", way ", way, ", reopened"), shown(opened(t, "P2001", d, api.Config{})), want)
		}
	}
}

// TestP2005Window: a database that is opened with a narrower window has all that was written with a wider one.
func TestP2005Window(t *testing.T) {
	d := disk.New(1 << 20)
	b := opened(t, "P2001", d, api.Config{Window: 100})
	all(t, b.Write([]api.Row{row("a", 100, 1), row("a", 10, 2)}), b.Flush(), b.Write([]api.Row{row("a", 5, 3)}), b.Write([]api.Row{row("a", 100, 4)}))
	was := shown(b)
	for range 2 {
		b = opened(t, "P2001", d, api.Config{})
		check(t, "P2005", "a narrower window", shown(b), was)
		check(t, "P2002", "a narrower window", b.Write([]api.Row{row("a", 99, 0)}), api.ErrOld)
		all(t, b.Flush())
	}
}

// TestP2005Memory: what is handed in is neither changed nor kept, and what is answered is new memory.
func TestP2005Memory(t *testing.T) {
	d := disk.New(1 << 20)
	b := opened(t, "P2001", d, api.Config{})
	spare := []api.Label{{Name: "z", Value: "1"}, {Name: "a", Value: "2"}, {Name: "spare", Value: "3"}}
	rows := []api.Row{{Labels: spare[:2], Sample: api.Sample{T: 1, V: 2}}, {Labels: spare[1:2], Sample: api.Sample{T: 3, V: 4}}, {}}
	note := []byte("note, spare")
	was := fmt.Sprint(rows, spare)
	all(t, b.Write(rows[:2]), b.Note(1, note[:4]))
	check(t, "P2005", "the rows stay", fmt.Sprint(rows, spare), was)
	check(t, "P2005", "the note stays", string(note), "note, spare")
	told := shown(b)
	spare[0], spare[1], rows[0] = api.Label{}, api.Label{}, api.Row{}
	copy(note, "-------")
	check(t, "P2005", "nothing is kept", shown(b), told)

	m := []api.Match{{Kind: api.MHas, Name: "a"}}
	for range 2 {
		l, _ := b.Query(m, 0, 9)
		again, _ := b.Query(m, 0, 9)
		for i := range l {
			l[i].Labels[0] = api.Label{}
			l[i].Labels = append(l[i].Labels, api.Label{})
			l[i].Samples[0] = api.Sample{}
			l[i].Samples = append(l[i].Samples, api.Sample{})
		}
		series, buckets, _ := b.Roll(m, 0, 9, 10)
		for i := range series {
			series[i].Labels[0] = api.Label{}
			buckets[i][0] = api.Bucket{}
			buckets[i] = append(buckets[i], api.Bucket{})
		}
		n := b.Notes()
		n[0].Bytes[0] = '-'
		n[0].Bytes = append(n[0].Bytes, 'x')
		check(t, "P2005", "answers are new memory", shown(b), told)
		check(t, "P2005", "answers share nothing", seriesShown(again), queried(t, b, 0, 9))
		check(t, "P2005", "the matchers stay", m[0], api.Match{Kind: api.MHas, Name: "a"})
		all(t, b.Flush())
	}
	check(t, "P2005", "on the disk, too", shown(opened(t, "P2001", d, api.Config{})), told)
}

// TestP2005Sameness: two disks have nothing in common, and the same calls make the same of both.
func TestP2005Sameness(t *testing.T) {
	one, two := disk.New(1<<20), disk.New(1<<20)
	a, b := opened(t, "P2001", one, api.Config{Hold: 3}), opened(t, "P2001", two, api.Config{Hold: 3})
	empty := shown(b)
	do := func(x *DB) {
		for i := range 30 {
			all(t, x.Write([]api.Row{row(fmt.Sprint(i%7), i, i), row(fmt.Sprint(i%5), i, i)}), x.Note(1+i%3, []byte{byte(i)}))
		}
	}
	do(a)
	check(t, "P2005", "the other", shown(b), empty)
	do(b)
	check(t, "P2005", "the same", shown(b), shown(a))
	check(t, "P2005", "the same disks", diskShown(two), diskShown(one))
}

// TestNoDB: a database that was not opened is dead and empty, and does not panic.
func TestNoDB(t *testing.T) {
	b := &DB{}
	was := shown(b)
	dead(t, "no database", b, was)
	_, there := b.Newest(of("a", "a"))
	check(t, "P2003", "Newest", there, false)
	check(t, "P2003", "Notes", len(b.Notes()), 0)
	l, w, errno := b.Roll(nil, 0, 9, 1)
	check(t, "P2003", "Roll", errno, api.OK)
	check(t, "P2003", "Roll", len(l)+len(w), 0)
}

// TestNames: all that a database has on its disk bears names of its own or of its log's, and what is put together is put away.
func TestNames(t *testing.T) {
	d := disk.New(1 << 20)
	b := opened(t, "P2001", d, api.Config{})
	for i := range 17 {
		all(t, b.Write([]api.Row{row("a", i, i)}), b.Note(1, nil), b.Flush())
	}
	check(t, "P2006", "blocks", len(b.manifest.Blocks), 17)
	all(t, b.Compact())
	names := d.List()
	slices.Sort(names)
	check(t, "P2006", "names", strings.Join(names, " "), "db-block-17 db-block-22 db-manifest db-notes wal-18-1")
	all(t, b.Retain(16), b.Compact())
	check(t, "P2006", "names above the watermark", strings.Join(d.List(), " "), "db-block-17 db-manifest db-notes wal-18-1")
	all(t, b.Retain(17), b.Flush())
	check(t, "P2006", "names of nothing", strings.Join(d.List(), " "), "db-manifest db-notes wal-19-1")
	check(t, "P2005", "what is left", shown(opened(t, "P2001", d, api.Config{})), shown(b))
}

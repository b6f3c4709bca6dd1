package wal

import (
	"bytes"
	"fmt"
	"math"
	"math/rand"
	"slices"
	"strings"
	"testing"

	"lysimeter/api"
	"lysimeter/disk"
)

func check[T comparable](t *testing.T, promise, name string, got, want T) {
	t.Helper()
	if got != want {
		t.Errorf("%s: %s: %#v, want %#v", promise, name, got, want)
	}
}

// group is a group of records with these bytes, of kinds 1, 2 and so on.
func group(words ...string) []api.Record {
	var g []api.Record
	for i, w := range words {
		g = append(g, api.Record{Kind: 1 + i%255, Bytes: []byte(w)})
	}
	return g
}

// shown is a group as a text, which no other group has.
func shown(g []api.Record) string {
	var out strings.Builder
	for _, r := range g {
		fmt.Fprintf(&out, "%d %d %s ", r.Kind, len(r.Bytes), r.Bytes)
	}
	return out.String()
}

func allShown(l [][]api.Record) []string {
	var out []string
	for _, g := range l {
		out = append(out, shown(g))
	}
	return out
}

// opened is the log of the disk; what it tells must be these groups.
func opened(t *testing.T, promise, name string, d *disk.Disk, want ...[]api.Record) *Log {
	t.Helper()
	l, found, errno := Open(d)
	if errno != api.OK {
		t.Fatalf("%s: %s: %v", promise, name, errno)
	}
	if !slices.Equal(allShown(found), allShown(want)) {
		t.Fatalf("%s: %s: %.200q, want %.200q", promise, name, allShown(found), allShown(want))
	}
	check(t, promise, name+": dead", l.Dead(), false)
	return l
}

func all(t *testing.T, errnos ...api.Errno) {
	t.Helper()
	for i, e := range errnos {
		if e != api.OK {
			t.Fatalf("call %d: %v", i, e)
		}
	}
}

// rolled rolls, and tells the error alone.
func rolled(l *Log) api.Errno {
	_, errno := l.Roll()
	return errno
}

// stateOf tells the names and bytes of a disk with power.
func stateOf(d *disk.Disk) string {
	var out strings.Builder
	for _, name := range d.List() {
		b, _ := d.Read(name)
		fmt.Fprintf(&out, "%s=%q ", name, b)
	}
	return out.String()
}

// turned is the bytes as a spoilt sector has them.
func turned(b []byte) []byte {
	out := bytes.Clone(b)
	for i := range out {
		out[i] ^= 165
	}
	return out
}

func checkDead(t *testing.T, name string, l *Log) {
	t.Helper()
	check(t, "P1002", name+": Dead", l.Dead(), true)
	check(t, "P1002", name+": Append", l.Append(group("x")), api.ErrDead)
	check(t, "P1002", name+": Append of nothing", l.Append(nil), api.ErrDead)
	check(t, "P1002", name+": Append of too many", l.Append(make([]api.Record, 101)), api.ErrDead)
	n, errno := l.Roll()
	check(t, "P1002", name+": Roll", errno, api.ErrDead)
	check(t, "P1002", name+": Roll's number", n, 0)
	check(t, "P1002", name+": Cut", l.Cut(1), api.ErrDead)
}

func TestP1001Open(t *testing.T) {
	l, found, errno := Open(nil)
	check(t, "P1001", "nil", errno, api.ErrArg)
	check(t, "P1001", "nil: log", l, nil)
	check(t, "P1001", "nil: groups", len(found), 0)

	d := disk.New(1 << 20)
	l = opened(t, "P1001", "empty", d)
	check(t, "P1001", "empty: File", l.File(), 1)
	l = opened(t, "P1001", "empty anew", d)
	check(t, "P1001", "empty anew: File", l.File(), 1)
	all(t, l.Append(group("a", "b")), l.Append(group("c")))
	opened(t, "P1001", "two", d, group("a", "b"), group("c"))
	opened(t, "P1001", "two anew", d, group("a", "b"), group("c"))
	d.Crash(nil)
	opened(t, "P1001", "two, crashed", d, group("a", "b"), group("c"))
}

func TestP1001OtherNames(t *testing.T) {
	d := disk.New(1 << 20)
	others := []string{"wal", "wal_1-1", "WAL-1-1", "a wal-1-1", "1-1", "-", "tmp"}
	for _, name := range others {
		all(t, d.Create(name), d.Append(name, packed(group("no "+name))), d.Sync(name))
	}
	all(t, d.SyncDir())
	was := stateOf(d)
	l := opened(t, "P1001", "other names", d)
	check(t, "P1001", "File", l.File(), 1)
	all(t, l.Append(group("a")), rolled(l), l.Append(group("b")), l.Cut(2))
	opened(t, "P1001", "beside other names", d, group("b"))
	for _, name := range d.List() {
		if strings.HasPrefix(name, "wal-") {
			all(t, d.Remove(name))
		} else if !slices.Contains(others, name) {
			t.Errorf("P1001: a name that is not the log's: %s", name)
		}
	}
	check(t, "P1001", "other names stay", stateOf(d), was)
}

func TestP1001Order(t *testing.T) {
	d := disk.New(1 << 20)
	l := opened(t, "P1001", "empty", d)
	var want [][]api.Record
	for i := range 123 {
		g := group(fmt.Sprint("word ", i))
		want = append(want, g)
		all(t, l.Append(g))
		n, errno := l.Roll()
		check(t, "P1002", "Roll", errno, api.OK)
		check(t, "P1002", "Roll's number", n, i+2)
	}
	l = opened(t, "P1001", "many files", d, want...)
	check(t, "P1001", "File", l.File(), 124)
	all(t, l.Cut(100))
	l = opened(t, "P1002", "many files, cut", d, want[99:]...)
	all(t, l.Append(group("z")))
	opened(t, "P1002", "behind all others", d, append(want[99:], group("z"))...)
}

// TestP1001OpenFails lets each step of an Open fail, of an empty disk and of one with files.
func TestP1001OpenFails(t *testing.T) {
	for _, some := range []bool{false, true} {
		for n := 0; ; n++ {
			d, want := disk.New(1<<20), [][]api.Record(nil)
			if some {
				l := opened(t, "P1001", "empty", d)
				want = [][]api.Record{group("a"), group("b")}
				all(t, l.Append(want[0]), rolled(l), l.Append(want[1]))
			}
			d.Fault(n)
			l, found, errno := Open(d)
			if errno == api.OK {
				check(t, "P1001", "an Open takes steps", n > 0, true)
				break
			}
			check(t, "P1001", "fault", errno, api.ErrIO)
			check(t, "P1001", "fault: log", l, nil)
			check(t, "P1001", "fault: groups", len(found), 0)
			opened(t, "P1004", "behind a fault", d, want...)
			d.Fuse(min(n, 1))
			_, found, errno = Open(d)
			check(t, "P1001", "fuse", errno, api.ErrOff)
			check(t, "P1001", "fuse: groups", len(found), 0)
			_, _, errno = Open(d)
			check(t, "P1001", "no power", errno, api.ErrOff)
			d.Crash(nil)
			opened(t, "P1004", "behind a fuse", d, want...)
		}
	}
}

func TestP1002AppendWrong(t *testing.T) {
	d := disk.New(1 << 26)
	l := opened(t, "P1001", "empty", d)
	long := make([]byte, api.MaxFrame)
	longer := make([]byte, api.MaxFrame+1)
	hundred := slices.Repeat(group("h"), 100)
	halves := []api.Record{{Kind: 255, Bytes: long[:api.MaxFrame/2]}, {Kind: 1, Bytes: long[:api.MaxFrame/2]}}
	full := append(slices.Repeat([]api.Record{{Kind: 7}}, 99), api.Record{Kind: 255, Bytes: long})
	var want [][]api.Record
	for i, x := range []struct {
		g []api.Record
		e api.Errno
	}{
		{nil, api.ErrArg},
		{[]api.Record{}, api.ErrArg},
		{[]api.Record{{Kind: 0, Bytes: []byte("a")}}, api.ErrArg},
		{[]api.Record{{Kind: 256}}, api.ErrArg},
		{[]api.Record{{Kind: -1}}, api.ErrArg},
		{[]api.Record{{Kind: 257}}, api.ErrArg},
		{[]api.Record{{Kind: math.MinInt}}, api.ErrArg},
		{[]api.Record{{Kind: math.MaxInt}}, api.ErrArg},
		{append(group("a", "b"), api.Record{}), api.ErrArg},
		{append([]api.Record{{}}, group("a")...), api.ErrArg},
		{make([]api.Record, 101), api.ErrLong},
		{append(hundred, group("i")...), api.ErrLong},
		{[]api.Record{{Kind: 1, Bytes: longer}}, api.ErrLong},
		{[]api.Record{{Kind: 0, Bytes: longer}}, api.ErrLong},
		{append(halves, group("i")...), api.ErrLong},
		{slices.Repeat([]api.Record{{Kind: 1, Bytes: long}}, 100), api.ErrLong},
		{hundred, api.OK},
		{halves, api.OK},
		{full, api.OK},
		{[]api.Record{{Kind: 1}}, api.OK},
		{[]api.Record{{Kind: 255, Bytes: []byte{}}, {Kind: 1}}, api.OK},
	} {
		was := d.Steps()
		check(t, "P1002", fmt.Sprint("Append ", i), l.Append(x.g), x.e)
		check(t, "P1002", fmt.Sprint("Append ", i, ": dead"), l.Dead(), false)
		if x.e == api.OK {
			want = append(want, x.g)
		} else {
			check(t, "P1002", "steps of what is refused", d.Steps(), was)
		}
	}
	d.Crash(nil)
	opened(t, "P1002", "what was not refused", d, want...)
}

// TestP1002Fails lets each step of each call fail in either way: the log is dead, and a later one goes on.
func TestP1002Fails(t *testing.T) {
	for _, call := range []string{"Append", "Roll", "Cut"} {
		for n := 0; ; n++ {
			lay := []func(*disk.Disk, int){(*disk.Disk).Fault, (*disk.Disk).Fuse}
			errnos := []api.Errno{api.ErrIO, api.ErrOff}
			failed := 0
			for i, want := range errnos {
				d := disk.New(1 << 20)
				l := opened(t, "P1001", "empty", d)
				all(t, l.Append(group("a")), rolled(l), l.Append(group("b")), rolled(l), l.Append(group("c")))
				lay[i](d, n)
				number, errno := 0, api.OK
				switch call {
				case "Append":
					errno = l.Append(group("d"))
				case "Roll":
					number, errno = l.Roll()
				case "Cut":
					errno = l.Cut(3)
				}
				if errno == api.OK {
					continue
				}
				failed++
				check(t, "P1002", call, errno, want)
				check(t, "P1002", call+": number", number, 0)
				check(t, "P1002", call+": File", l.File(), 3)
				checkDead(t, call, l)
			}
			if failed == 0 {
				check(t, "P1002", call+" takes steps", n > 0, true)
				break
			}
		}
	}
}

func TestP1002Full(t *testing.T) {
	d := disk.New(200)
	l := opened(t, "P1001", "empty", d)
	all(t, l.Append(group("a")), rolled(l))
	was := group(string(make([]byte, 100)))
	all(t, l.Append(was))
	check(t, "P1002", "no room", l.Append(was), api.ErrFull)
	checkDead(t, "no room", l)
	l = opened(t, "P1003", "no room", d, group("a"), was)
	all(t, l.Cut(2), l.Append(group("b")), rolled(l), l.Cut(3), l.Append(was))
	opened(t, "P1003", "room anew", d, was)
}

func TestP1002Roll(t *testing.T) {
	d := disk.New(1 << 20)
	l := opened(t, "P1001", "empty", d)
	for want := 2; want < 6; want++ {
		n, errno := l.Roll()
		check(t, "P1002", "Roll", errno, api.OK)
		check(t, "P1002", "Roll's number", n, want)
		check(t, "P1002", "File", l.File(), want)
		d.Crash(nil)
		l = opened(t, "P1003", "behind a Roll", d)
		check(t, "P1003", "File behind an Open", l.File(), want)
	}
}

func TestP1002Cut(t *testing.T) {
	words := []string{"a", "b", "c", "d"}
	for _, x := range []struct{ n, left int }{
		{math.MinInt, 4}, {-1, 4}, {0, 4}, {1, 4}, {2, 3}, {3, 2}, {4, 1}, {5, 1}, {99, 1}, {math.MaxInt, 1},
	} {
		d := disk.New(1 << 20)
		l := opened(t, "P1001", "empty", d)
		for i, w := range words {
			if i > 0 {
				all(t, rolled(l))
			}
			all(t, l.Append(group(w)))
		}
		var want [][]api.Record
		for _, w := range words[4-x.left:] {
			want = append(want, group(w))
		}
		name := fmt.Sprint("Cut ", x.n)
		all(t, l.Cut(x.n), l.Cut(x.n))
		check(t, "P1002", name+": File", l.File(), 4)
		opened(t, "P1002", name, d, want...)
		d.Crash(nil)
		l = opened(t, "P1003", name+", crashed", d, want...)
		check(t, "P1003", name+": File", l.File(), 4)
		check(t, "P1002", name+": room", d.Room(), 1<<20-x.left*len(packed(group("a"))))
		all(t, l.Append(group("e")), rolled(l), l.Append(group("f")), l.Cut(5))
		opened(t, "P1002", name+", and anew", d, group("f"))
	}
}

// keeps is all lists of so many numbers out of these.
func keeps(length int, of ...int) [][]int {
	if length == 0 {
		return [][]int{nil}
	}
	var out [][]int
	for _, rest := range keeps(length-1, of...) {
		for _, n := range of {
			out = append(out, append([]int{n}, rest...))
		}
	}
	return out
}

// TestP1002CutFails crashes a Cut behind each of its steps, and keeps what it did in all ways: the files from some number on are there.
func TestP1002CutFails(t *testing.T) {
	suffixes := map[string]bool{"abcd": true, "bcd": true, "cd": true, "d": true}
	seen := map[string]bool{}
	for n := range 12 {
		for _, keep := range keeps(5, 0, 1) {
			for _, crash := range []bool{false, true} {
				d := disk.New(1 << 20)
				l := opened(t, "P1001", "empty", d)
				for _, w := range []string{"a", "b", "c", "d"} {
					all(t, l.Append(group(w)), rolled(l))
				}
				if crash {
					d.Fuse(n)
				} else {
					d.Fault(n)
				}
				errno := l.Cut(4)
				d.Fault(-1)
				if crash {
					d.Crash(keep)
				}
				l, found, _ := Open(d)
				d.Crash(keep)
				again := opened(t, "P1003", "what an Open has told", d, found...)
				check(t, "P1003", "File", l.File(), 5)
				check(t, "P1003", "File anew", again.File(), 5)
				s := ""
				for _, g := range found {
					s += string(g[0].Bytes)
				}
				seen[s] = true
				if !suffixes[s] || errno == api.OK && s != "d" {
					t.Fatalf("P1002: a Cut that failed behind %d steps left %s, %v", n, s, keep)
				}
			}
		}
	}
	check(t, "P1002", "all that may be left", len(seen), 4)
}

// TestP1002Long writes more to one file of the log than a file of the disk holds.
func TestP1002Long(t *testing.T) {
	d := disk.New(api.MaxQuota)
	l := opened(t, "P1001", "empty", d)
	all(t, l.Append(group("a")), rolled(l))
	var want [][]api.Record
	for i := range 36 {
		b := bytes.Repeat([]byte{byte(i)}, api.MaxFrame)
		g := []api.Record{{Kind: 9, Bytes: b}}
		if errno := l.Append(g); errno != api.OK {
			t.Fatalf("P1002: %d: %v", i, errno)
		}
		want = append(want, g)
		if i%11 == 10 {
			l, _, _ = Open(d) // which must know how much its last part has
		}
	}
	check(t, "P1002", "File", l.File(), 2)
	check(t, "P1002", "parts are filled", len(d.List()), 4)
	d.Crash(nil)
	l = opened(t, "P1003", "much", d, append([][]api.Record{group("a")}, want...)...)
	all(t, l.Append(group("b")), l.Cut(2))
	check(t, "P1003", "File", l.File(), 2)
	d.Crash(nil)
	l = opened(t, "P1003", "much, cut", d, append(want, group("b"))...)
	all(t, rolled(l), l.Append(group("c")), l.Append(want[0]), l.Append(want[1]), l.Cut(3))
	check(t, "P1002", "parts behind a Roll", len(d.List()), 1)
	opened(t, "P1003", "little", d, group("c"), want[0], want[1])
}

// TestP1002Edge fills a file of the disk to its last byte, to one less, and would fill it to one more than it holds.
func TestP1002Edge(t *testing.T) {
	each := api.MaxFile / 16
	plain := group(string(make([]byte, each-len(packed(group(""))))))
	for more, holds := range map[int]int{-1: api.MaxFile - 1, 0: api.MaxFile, 1: api.MaxFile - each} {
		d := disk.New(api.MaxQuota)
		l := opened(t, "P1001", "empty", d)
		last := group(string(make([]byte, len(plain[0].Bytes)+more)))
		want := append(slices.Repeat([][]api.Record{plain}, 15), last, group(""), group("behind"))
		for _, g := range want {
			all(t, l.Append(g))
		}
		check(t, "P1002", "File", l.File(), 1)
		d.Crash(nil)
		opened(t, "P1003", fmt.Sprint("full but for ", -more), d, want...)
		b, _ := d.Read(part{1, 1}.name())
		check(t, "P1002", "bytes of the first part", len(b), holds)
	}
}

// spoken is a group whose bytes are those of other groups, whole, turned or cut, as they lie on the disk.
func spoken() []api.Record {
	bad := packed(group("bad"))
	return []api.Record{
		{Kind: 1, Bytes: bad},
		{Kind: 2, Bytes: turned(bad)},
		{Kind: 3, Bytes: slices.Repeat(bad, 30)},
		{Kind: 4, Bytes: append(make([]byte, 300), turned(slices.Repeat(bad, 30))...)},
		{Kind: 255, Bytes: bad[:len(bad)-1]},
		{Kind: 165, Bytes: packed(nil)},
		{Kind: 165, Bytes: turned(packed(nil))},
	}
}

// TestP1003Torn tears a group at each of its bytes, spoilt or not, and goes on behind it, twice.
func TestP1003Torn(t *testing.T) {
	g := spoken()
	size := len(packed(g))
	for _, ahead := range []int{0, 1, 400, 511} {
		first := group(string(make([]byte, ahead)), "first")
		for k := 0; k <= size; k += 1 + ahead%7*5 {
			for spoil := range 2 {
				d := disk.New(1 << 20)
				l := opened(t, "P1001", "empty", d)
				all(t, l.Append(first))
				d.Fuse(1)
				check(t, "P1002", "Append", l.Append(g), api.ErrOff)
				d.Crash([]int{k, spoil})
				want := [][]api.Record{first}
				name := fmt.Sprint(k, " bytes of ", size, ", spoilt ", spoil, ", behind ", ahead)
				if k == size && spoil == 0 {
					want = append(want, g)
				}
				l = opened(t, "P1003", name, d, want...)
				check(t, "P1003", name+": File", l.File(), 1)
				all(t, l.Append(group("next")))
				want = append(want, group("next"))
				d.Fuse(1)
				check(t, "P1002", "Append", l.Append(group("torn anew")), api.ErrOff)
				d.Crash([]int{5, spoil})
				l = opened(t, "P1003", name+", and anew", d, want...)
				all(t, l.Append(g), rolled(l), l.Append(group("last")))
				d.Crash(nil)
				l = opened(t, "P1003", name+", and on", d, append(want, g, group("last"))...)
				all(t, l.Cut(2))
				opened(t, "P1003", name+", cut", d, group("last"))
				check(t, "P1002", name+": room", d.Room(), 1<<20-len(packed(group("last"))))
			}
		}
	}
}

// TestP1003HalfCut crashes a Cut of a file that a torn group has made of several parts, and the Opens behind it: the file is there as a whole, or not at all.
func TestP1003HalfCut(t *testing.T) {
	made := func() (*disk.Disk, *Log) {
		d := disk.New(1 << 20)
		l := opened(t, "P1001", "empty", d)
		for _, w := range []string{"a", "b"} {
			all(t, l.Append(group(w)))
			d.Fuse(1)
			l.Append(group("torn"))
			d.Crash([]int{5, 0})
			l, _, _ = Open(d)
		}
		all(t, l.Append(group("c")), rolled(l), l.Append(group("d")))
		return d, l
	}
	abc := [][]api.Record{group("a"), group("b"), group("c"), group("d")}
	for n := range 8 {
		for again := range 6 {
			for _, keep := range keeps(3, 0, 1) {
				for _, faults := range []bool{false, true} {
					d, l := made()
					lay := d.Fuse
					if faults {
						lay = d.Fault
					}
					lay(n)
					errno := l.Cut(2)
					if !faults {
						d.Crash(keep)
					}
					lay(again)
					Open(d)
					d.Crash(keep)
					_, found, _ := Open(d)
					s := allShown(found)
					if !slices.Equal(s, allShown(abc[3:])) && (errno == api.OK || !slices.Equal(s, allShown(abc))) {
						t.Fatalf("P1002: %d, %d, %v: left %q", n, again, keep, s)
					}
					d.Crash(keep)
					opened(t, "P1003", "what an Open has told", d, found...)
					if len(found) == 1 {
						check(t, "P1003", "room behind an Open", d.Room(), 1<<20-len(packed(group("d"))))
					}
				}
			}
		}
	}
}

// TestP1003Sure: what a failed call left behind, and an Open has told, no crash takes back.
func TestP1003Sure(t *testing.T) {
	d := disk.New(1 << 20)
	l := opened(t, "P1001", "empty", d)
	d.Fault(1) // the group is written, and not synced
	check(t, "P1002", "Append", l.Append(group("a")), api.ErrIO)
	l = opened(t, "P1003", "in doubt", d, group("a"))
	d.Crash(nil)
	l = opened(t, "P1003", "told", d, group("a"))

	d.Fault(1) // the new file is made, and the directory is not synced
	check(t, "P1002", "Roll", rolled(l), api.ErrIO)
	l = opened(t, "P1003", "behind a Roll", d, group("a"))
	n := l.File()
	check(t, "P1003", "File", n == 1 || n == 2, true)
	d.Crash(nil)
	l = opened(t, "P1003", "behind a Roll, crashed", d, group("a"))
	check(t, "P1003", "File never becomes less", l.File() >= n, true)

	all(t, rolled(l))
	d.Fault(1) // the file is removed, and the directory is not synced
	check(t, "P1002", "Cut", l.Cut(99), api.ErrIO)
	_, found, _ := Open(d)
	d.Crash(nil)
	opened(t, "P1003", "behind a Cut", d, found...)
}

// TestP1003Appends crashes a row of Appends behind each step in many ways, and the Open behind it too.
func TestP1003Appends(t *testing.T) {
	script := [][]api.Record{group("a", "b"), group("c"), group(strings.Repeat("d", 700)), group("e")}
	for n := range 10 {
		for again := range 4 {
			for _, keep := range keeps(2, 0, 1, 6, 13, 600, 9999) {
				d := disk.New(1 << 20)
				l, _, _ := Open(d)
				d.Fuse(n)
				var sure, doubt [][]api.Record
				for _, g := range script {
					if errno := l.Append(g); errno != api.OK {
						doubt = append(slices.Clone(sure), g)
						break
					}
					sure = append(sure, g)
				}
				d.Crash(keep)
				d.Fuse(again)
				Open(d)
				d.Crash(keep)
				l, found, errno := Open(d)
				check(t, "P1003", "Open", errno, api.OK)
				s := allShown(found)
				if !slices.Equal(s, allShown(sure)) && (doubt == nil || !slices.Equal(s, allShown(doubt))) {
					t.Fatalf("P1003: %d, %d, %v: %.100q", n, again, keep, s)
				}
				all(t, l.Append(group("on")))
				d.Crash(nil)
				opened(t, "P1003", "on", d, append(found, group("on"))...)
			}
		}
	}
}

// entry is a group of the model, and the file that it lies in.
type entry struct {
	file int
	text string
}

// model is what a log must tell: what is sure, and what a call in doubt may have made of it.
type model struct {
	sure  []entry
	doubt [][]entry
	file  int
}

func (m *model) cut(n int) []entry {
	return slices.DeleteFunc(slices.Clone(m.sure), func(e entry) bool { return e.file < min(n, m.file) })
}

// settle takes what an Open told for what is sure, if it is what may be.
func (m *model) settle(found [][]api.Record, file int) bool {
	s := allShown(found)
	for _, may := range append(m.doubt, m.sure) {
		var texts []string
		for _, e := range may {
			texts = append(texts, e.text)
		}
		if slices.Equal(texts, s) {
			m.sure, m.doubt = may, nil
			ok := file >= m.file
			m.file = file
			return ok
		}
	}
	return false
}

// anyGroup is a group of any bytes, those of frames among them.
func anyGroup(r *rand.Rand) []api.Record {
	var g []api.Record
	for range 1 + r.Intn(4) {
		b := make([]byte, r.Intn(700)*r.Intn(2))
		for i := range b {
			b[i] = "\x00\x01\xa5\xa4"[r.Intn(4)]
		}
		switch r.Intn(4) {
		case 0:
			b = append(b, packed(group("bad"))...)
		case 1:
			b = append(b, turned(packed(group("bad")))...)
		}
		g = append(g, api.Record{Kind: 1 + r.Intn(255), Bytes: b})
	}
	return g
}

// call does one call to the log, and has the model know of it; it tells whether the call failed.
func (m *model) call(r *rand.Rand, l *Log) bool {
	switch r.Intn(8) {
	case 0:
		n, errno := l.Roll()
		if errno == api.OK {
			m.file = n
		}
		return errno != api.OK
	case 1:
		n := m.file + 2 - r.Intn(6)
		errno := l.Cut(n)
		if errno == api.OK {
			m.sure = m.cut(n)
			return false
		}
		for i := range n + 1 {
			m.doubt = append(m.doubt, m.cut(i))
		}
		return true
	}
	g := anyGroup(r)
	now := append(slices.Clone(m.sure), entry{m.file, shown(g)})
	errno := l.Append(g)
	if errno == api.OK {
		m.sure = now
		return false
	}
	m.doubt = append(m.doubt, now)
	return true
}

func anyKeep(r *rand.Rand) []int {
	keep := make([]int, r.Intn(12))
	for i := range keep {
		keep[i] = [...]int{0, 1, r.Intn(20), r.Intn(3000), 1 << 20, 1<<20 + 1, -r.Intn(9)}[r.Intn(7)]
	}
	return keep
}

// misfortune lays a fuse or a fault, or none, and may let something else write to the disk.
func misfortune(r *rand.Rand, d *disk.Disk) {
	switch r.Intn(6) {
	case 0:
		d.Fuse(r.Intn(8))
	case 1:
		d.Fault(r.Intn(8))
	case 2:
		d.Create("other")
		d.Append("other", packed(group("bad")))
		d.Rename("other", "another")
	}
}

// TestP1003Model plays calls, faults and crashes in any order against the model.
func TestP1003Model(t *testing.T) {
	r := rand.New(rand.NewSource(10))
	for round := range 400 {
		d := disk.New(1 << 20)
		m := &model{file: 1}
		l := opened(t, "P1001", "empty", d)
		for range 60 {
			misfortune(r, d)
			failed := m.call(r, l)
			check(t, "P1002", "Dead", l.Dead(), failed)
			if !failed && r.Intn(9) > 0 {
				check(t, "P1002", "File", l.File(), m.file)
				continue
			}
			for {
				if !d.On() || r.Intn(2) == 0 {
					d.Crash(anyKeep(r))
				}
				misfortune(r, d)
				o, found, errno := Open(d)
				if errno != api.OK {
					check(t, "P1001", "Open", errno == api.ErrOff || errno == api.ErrIO, true)
					continue
				}
				if !m.settle(found, o.File()) {
					t.Fatalf("P1003: round %d: %d groups, file %d; %d were sure, file %d", round, len(found), o.File(), len(m.sure), m.file)
				}
				l = o
				break
			}
		}
	}
}

// TestP1003File: no crash of a Roll, and no Open, makes File's number less, nor that of a file of which no group is left.
func TestP1003File(t *testing.T) {
	for n := range 4 {
		for _, keep := range keeps(2, 0, 1) {
			d := disk.New(1 << 20)
			l := opened(t, "P1001", "empty", d)
			all(t, rolled(l), rolled(l), l.Cut(3))
			d.Fuse(n)
			told, errno := l.Roll()
			d.Crash(keep)
			l = opened(t, "P1003", "rolled", d)
			if l.File() < max(3, told) || l.File() > 4 || errno == api.OK && l.File() != 4 {
				t.Errorf("P1003: File %d behind a Roll to %d, %v", l.File(), told, keep)
			}
			was := l.File()
			for range 3 {
				d.Crash(keep)
				l = opened(t, "P1003", "anew", d)
				check(t, "P1003", "File anew", l.File(), was)
			}
		}
	}
}

// TestP1004OpenFails: an Open that tells an error leaves all that is sure, and of what is in doubt all or nothing.
func TestP1004OpenFails(t *testing.T) {
	for n := range 6 {
		for _, keep := range keeps(3, 0, 1, 20, 40) {
			d := disk.New(1 << 20)
			l := opened(t, "P1001", "empty", d)
			all(t, l.Append(group("a")), rolled(l), l.Append(group("b")))
			d.Fault(1)
			check(t, "P1002", "Append", l.Append(group("doubt")), api.ErrIO)
			d.Fault(n)
			_, found, errno := Open(d)
			d.Crash(keep)
			l, again, _ := Open(d)
			s := allShown(again)
			sure := allShown([][]api.Record{group("a"), group("b")})
			whole := append(slices.Clone(sure), shown(group("doubt")))
			if !slices.Equal(s, sure) && !slices.Equal(s, whole) {
				t.Fatalf("P1004: %d, %v: %q", n, keep, s)
			}
			if errno == api.OK && !slices.Equal(s, allShown(found)) {
				t.Fatalf("P1003: %d, %v: %q, once it was %q", n, keep, s, allShown(found))
			}
			check(t, "P1003", "File", l.File(), 2)
		}
	}
}

func TestP1004Memory(t *testing.T) {
	d := disk.New(1 << 20)
	l := opened(t, "P1001", "empty", d)
	beside := []api.Record{{Kind: 77, Bytes: []byte("beside")}, {Kind: 78, Bytes: []byte("it")}}
	room := append(make([]api.Record, 3), beside...)
	bytesRoom := []byte("abcdef")
	g := append(room[:0], api.Record{Kind: 1, Bytes: bytesRoom[:3]}, api.Record{Kind: 2, Bytes: bytesRoom[2:4]}, api.Record{Kind: 3})
	want, short := group("abc", "cd", ""), group("abc") // the short one would fit into the spare room of the other
	all(t, l.Append(g), l.Append(g[:1]))
	check(t, "P1004", "the bytes stay", string(bytesRoom), "abcdef")
	check(t, "P1004", "the group stays", shown(g), shown(want))
	check(t, "P1004", "its spare room stays", shown(room[3:]), shown(beside))
	copy(bytesRoom, "------")
	g[0], g[1] = api.Record{Kind: 9}, api.Record{Kind: 9}
	_, found, _ := Open(d)
	opened(t, "P1004", "not kept", d, want, short)

	_, other, _ := Open(d)
	for i, g := range found {
		for k := range g {
			b := g[k].Bytes
			for j := range b {
				b[j] = '-'
			}
			g[k].Bytes = append(b, "more"...)
			g[k].Kind = 200
		}
		found[i] = append(g, api.Record{Kind: 201})
		for _, later := range found[i+1:] {
			check(t, "P1004", "lists of their own", shown(later), shown(short))
		}
	}
	check(t, "P1004", "answers of their own", shown(other[1]), shown(short))
	opened(t, "P1004", "the disk stays", d, want, short)
}

// TestP1004Bytes writes bytes that look like what the log itself writes.
func TestP1004Bytes(t *testing.T) {
	d := disk.New(1 << 20)
	l := opened(t, "P1001", "empty", d)
	var every []byte
	for i := range 256 {
		every = append(every, byte(i))
	}
	want := [][]api.Record{spoken(), {{Kind: 1, Bytes: every}}, spoken()}
	for kind := 1; kind <= 255; kind++ {
		want = append(want, []api.Record{{Kind: kind, Bytes: every[:kind]}, {Kind: 256 - kind, Bytes: packed(spoken())}})
	}
	for _, g := range want {
		all(t, l.Append(g))
	}
	opened(t, "P1004", "all bytes", d, want...)
}

// TestP1004Sameness: two disks have nothing in common, and the same calls make the same of both.
func TestP1004Sameness(t *testing.T) {
	one, two := disk.New(1<<20), disk.New(1<<20)
	a := opened(t, "P1001", "empty", one)
	b := opened(t, "P1001", "empty", two)
	all(t, a.Append(group("a")), rolled(a), a.Append(group("b")))
	check(t, "P1004", "the other File", b.File(), 1)
	opened(t, "P1004", "the other", two)
	all(t, b.Append(group("a")), rolled(b), b.Append(group("b")))
	check(t, "P1004", "the same", stateOf(one), stateOf(two))
}

// TestNames: what is no part's name is none, and does no harm.
func TestNames(t *testing.T) {
	d := disk.New(1 << 20)
	for _, name := range []string{"wal-", "wal--", "wal-1", "wal-1-", "wal--1", "wal-0-1", "wal-1-0", "wal-01-1", "wal-1-01", "wal-+1-1", "wal-1-1-1", "wal--1-1", "wal-1--1", "wal-x-1", "wal-1-x", "wal-99999999999999999999-1", " wal-1-1", "wal-1-1 "} {
		_, ok := parsed(name)
		check(t, "P1001", name, ok, false)
		all(t, d.Create(name), d.Append(name, packed(group("no"))))
	}
	l := opened(t, "P1001", "no names of its own", d)
	check(t, "P1001", "File", l.File(), 1)
	p, ok := parsed(part{12, 345}.name())
	check(t, "P1001", "a part's name", ok && p == part{12, 345}, true)
}

// TestNoLog: a log that was not opened is dead, and does not panic.
func TestNoLog(t *testing.T) {
	l := &Log{}
	checkDead(t, "no log", l)
	check(t, "P1002", "File", l.File(), 0)
}

package disk

import (
	"bytes"
	"fmt"
	"math"
	"slices"
	"strings"
	"testing"

	"lysimeter/api"
)

func check[T comparable](t *testing.T, promise, name string, got, want T) {
	t.Helper()
	if got != want {
		t.Errorf("%s: %s: %#v, want %#v", promise, name, got, want)
	}
}

// all holds each of the steps against OK.
func all(t *testing.T, steps ...api.Errno) {
	t.Helper()
	for i, e := range steps {
		if e != api.OK {
			t.Fatalf("step %d: %v", i, e)
		}
	}
}

// shown tells all that a disk with power tells, in one text.
func shown(d *Disk) string {
	var out strings.Builder
	for _, name := range d.List() {
		b, e := d.Read(name)
		fmt.Fprintf(&out, "%s=%s(%d) ", name, b, e)
	}
	fmt.Fprintf(&out, "room %d steps %d on %v", d.Room(), d.Steps(), d.On())
	return out.String()
}

// files tells the names and bytes of a disk.
func files(d *Disk) string {
	var out []string
	for _, name := range d.List() {
		b, _ := d.Read(name)
		out = append(out, name+"="+string(b))
	}
	return strings.Join(out, " ")
}

func spoilt(s string) string {
	b := []byte(s)
	for i := range b {
		b[i] ^= 165
	}
	return string(b)
}

// begun is a disk with a sure file a of abc.
func begun(t *testing.T) *Disk {
	t.Helper()
	d := New(1 << 20)
	all(t, d.Create("a"), d.Append("a", []byte("abc")), d.Sync("a"), d.SyncDir())
	return d
}

func TestExamples(t *testing.T) {
	for _, x := range []struct {
		keep []int
		want string
	}{{[]int{1, 0}, "a=abcd"}, {[]int{1, 1}, "a=abc" + spoilt("d")}} {
		d := begun(t)
		all(t, d.Append("a", []byte("de")))
		d.Crash(x.keep)
		check(t, "examples", fmt.Sprint("Append, Crash", x.keep), files(d), x.want)
	}
	for keep, want := range []string{"a=abc", "a=abc b="} {
		d := begun(t)
		all(t, d.Create("b"))
		d.Crash([]int{keep})
		check(t, "examples", fmt.Sprint("Create, Crash", keep), files(d), want)
	}
}

// kinds are one step of each kind that can be done to a disk with the files a and b.
func kinds() []api.Op {
	return []api.Op{
		{Kind: 0, Name: "c"},
		{Kind: 1, Name: "a", Bytes: []byte("x")},
		{Kind: 2, Name: "a"},
		{Kind: 3, Name: "a", To: "b"},
		{Kind: 4, Name: "b"},
		{Kind: 5},
	}
}

// call is the step that o tells, by the method of its own.
func call(d *Disk, o api.Op) api.Errno {
	switch o.Kind {
	case 0:
		return d.Create(o.Name)
	case 1:
		return d.Append(o.Name, o.Bytes)
	case 2:
		return d.Sync(o.Name)
	case 3:
		return d.Rename(o.Name, o.To)
	case 4:
		return d.Remove(o.Name)
	}
	return d.SyncDir()
}

func TestP301EachKindIsAStep(t *testing.T) {
	for _, o := range kinds() {
		name := fmt.Sprint("kind ", o.Kind)
		d := New(100)
		all(t, d.Create("a"), d.Create("b"))
		before := shown(d)
		d.Fault(0)
		check(t, "P301", name, call(d, o), api.ErrIO)
		check(t, "P301", name, shown(d), before)
		check(t, "P301", name, call(d, o), api.OK)
		check(t, "P301", name, d.Steps(), 3)

		d = New(100)
		all(t, d.Create("a"), d.Create("b"))
		d.Fuse(0)
		check(t, "P301", name, d.On(), true)
		check(t, "P301", name, call(d, o), api.ErrOff)
		check(t, "P301", name, d.On(), false)
		check(t, "P301", name, call(d, o), api.ErrOff)
		check(t, "P301", name, d.Steps(), 2)
		check(t, "P301", name, d.Room(), 100)
	}
}

func TestP301StepThatFailsLeavesNothingPending(t *testing.T) {
	for _, o := range kinds() {
		d := New(100)
		all(t, d.Create("a"), d.Create("b"), d.Append("a", []byte("12")), d.SyncDir(), d.Sync("a"), d.Append("a", []byte("3")))
		d.Fault(0)
		check(t, "P301", fmt.Sprint("kind ", o.Kind), d.Do(o), api.ErrIO)
		d.Fuse(0)
		check(t, "P301", fmt.Sprint("kind ", o.Kind), d.Do(o), api.ErrOff)
		d.Crash([]int{1, 0, 1, 0, 1})
		check(t, "P301", fmt.Sprint("kind ", o.Kind), files(d), "a=123 b=")
	}
	for _, o := range []api.Op{{Kind: 0, Name: "a"}, {Kind: 3, Name: "a"}, {Kind: 3, Name: "x", To: "a"}, {Kind: 4, Name: "x"}} {
		d := New(100)
		all(t, d.Create("a"), d.SyncDir(), d.Append("a", []byte("12")))
		if d.Do(o) == api.OK {
			t.Errorf("P301: %v was done", o)
		}
		d.Crash([]int{1, 0})
		check(t, "P301", fmt.Sprint(o), files(d), "a=1")
	}
}

func TestP301Fuse(t *testing.T) {
	for n := range 5 {
		d := begun(t)
		d.Fuse(n)
		for range n {
			check(t, "P301", "not done", d.Remove("x"), api.ErrNone)
			check(t, "P301", "not done", d.Do(api.Op{Kind: 6}), api.ErrArg)
			all(t, d.Append("a", []byte("+")))
		}
		check(t, "P301", "no step", d.Do(api.Op{Kind: 6}), api.ErrArg)
		_, e := d.Read("a")
		check(t, "P301", "no step", e, api.OK)
		check(t, "P301", "laid", d.On(), true)
		check(t, "P301", "ahead of its own errors", d.Remove("x"), api.ErrOff)
		check(t, "P301", "blown", d.On(), false)
		check(t, "P301", "done", d.Steps(), 4+n)
		d.Fuse(-1)
		check(t, "P301", "blown", d.Sync("a"), api.ErrOff)
	}
}

func TestP301Fault(t *testing.T) {
	for n := range 5 {
		d := begun(t)
		d.Fault(n)
		for range n {
			check(t, "P301", "not done", d.Remove("x"), api.ErrNone)
			all(t, d.Append("a", []byte("+")))
		}
		check(t, "P301", "behind its own errors", d.Remove("x"), api.ErrNone)
		check(t, "P301", "due", d.Append("a", []byte("-")), api.ErrIO)
		check(t, "P301", "gone", d.Append("a", []byte("!")), api.OK)
		check(t, "P301", "gone", files(d), "a=abc"+strings.Repeat("+", n)+"!")
		check(t, "P301", "done", d.Steps(), 5+n)
	}
}

func TestP301FuseAndFault(t *testing.T) {
	d := begun(t)
	d.Fuse(1)
	d.Fault(0)
	check(t, "P301", "a step that failed does not count", d.Sync("a"), api.ErrIO)
	check(t, "P301", "a step that failed does not count", d.Sync("a"), api.OK)
	check(t, "P301", "the fuse", d.Sync("a"), api.ErrOff)
	d = begun(t)
	d.Fuse(0)
	d.Fault(0)
	check(t, "P301", "the fuse is first", d.Sync("a"), api.ErrOff)
	d.Crash(nil)
	check(t, "P304", "no fault is laid", d.Sync("a"), api.OK)
	d.Fuse(0)
	d.Crash(nil)
	check(t, "P304", "no fuse is laid", d.Sync("a"), api.OK)
	check(t, "P301", "since New", d.Steps(), 6)
}

func TestP301NewOneTakesThePlace(t *testing.T) {
	for _, below := range []int{-1, -7, math.MinInt} {
		d := begun(t)
		d.Fuse(1)
		d.Fault(1)
		d.Fuse(below)
		d.Fault(below)
		all(t, d.Sync("a"), d.Sync("a"), d.Sync("a"))
	}
	d := begun(t)
	d.Fault(0)
	d.Fault(2)
	all(t, d.Sync("a"), d.Sync("a"))
	check(t, "P301", "the new fault", d.Sync("a"), api.ErrIO)
	d.Fuse(0)
	d.Fuse(2)
	all(t, d.Sync("a"), d.Sync("a"))
	check(t, "P301", "the new fuse", d.Sync("a"), api.ErrOff)
	d = begun(t)
	d.Fuse(math.MaxInt)
	d.Fault(math.MaxInt)
	all(t, d.Sync("a"), d.Sync("a"))
	d.Fuse(0)
	check(t, "P301", "the new fuse", d.Sync("a"), api.ErrOff)
	d.Fuse(5)
	check(t, "P301", "a fuse brings no power", d.Sync("a"), api.ErrOff)
}

func TestP302Create(t *testing.T) {
	d := New(10)
	long := strings.Repeat("n", api.MaxName)
	check(t, "P302", "empty", d.Create(""), api.ErrArg)
	check(t, "P302", "too long", d.Create(long+"n"), api.ErrArg)
	check(t, "P302", "longest", d.Create(long), api.OK)
	check(t, "P302", "there", d.Create(long), api.ErrExist)
	check(t, "P302", "any bytes", d.Create("\x00\xff/ "), api.OK)
	check(t, "P302", "empty files", files(d), "\x00\xff/ = "+long+"=")
	all(t, d.Append(long, []byte("1")), d.Remove(long), d.Create(long))
	check(t, "P302", "a new file", files(d), "\x00\xff/ = "+long+"=")
}

func TestP302Append(t *testing.T) {
	d := New(5)
	check(t, "P302", "none", d.Append("a", nil), api.ErrNone)
	check(t, "P302", "none, ahead of too long", d.Append("a", make([]byte, api.MaxFile+1)), api.ErrNone)
	all(t, d.Create("a"), d.Create("b"), d.Append("a", []byte("12")), d.Append("b", []byte("3")), d.Append("a", []byte{}))
	check(t, "P302", "above the quota", d.Append("a", []byte("456")), api.ErrFull)
	check(t, "P302", "files", files(d), "a=12 b=3")
	check(t, "P302", "just the quota", d.Append("a", []byte("45")), api.OK)
	check(t, "P302", "nothing at all", d.Append("b", nil), api.OK)
	check(t, "P302", "above the quota", d.Append("b", []byte("6")), api.ErrFull)
	check(t, "P302", "too long, ahead of full", d.Append("b", make([]byte, api.MaxFile)), api.ErrLong)
	check(t, "P302", "behind the tail", files(d), "a=1245 b=3")
	all(t, d.Remove("b"), d.Append("a", []byte("6")), d.Create("c"), d.Rename("c", "a"), d.Append("a", []byte("12345")))
	check(t, "P302", "room of files that are gone", files(d), "a=12345")

	d = New(api.MaxQuota)
	all(t, d.Create("a"), d.Append("a", make([]byte, api.MaxFile-1)))
	check(t, "P302", "too long", d.Append("a", make([]byte, 2)), api.ErrLong)
	check(t, "P302", "longest", d.Append("a", make([]byte, 1)), api.OK)
	check(t, "P302", "too long", d.Append("a", make([]byte, 1)), api.ErrLong)
	check(t, "P302", "longest", d.Append("a", nil), api.OK)
	check(t, "P302", "room", d.Room(), api.MaxQuota-api.MaxFile)
}

func TestP302Sync(t *testing.T) {
	d := New(10)
	check(t, "P302", "none", d.Sync("a"), api.ErrNone)
	all(t, d.Create("a"), d.Append("a", []byte("12")), d.Create("b"), d.Append("b", []byte("3")), d.SyncDir(), d.Sync("a"))
	d.Crash(nil)
	check(t, "P302", "a alone is sure", files(d), "a=12 b=")
}

func TestP302Rename(t *testing.T) {
	d := begun(t)
	check(t, "P302", "none, ahead of no name", d.Rename("x", ""), api.ErrNone)
	check(t, "P302", "no name", d.Rename("a", ""), api.ErrArg)
	check(t, "P302", "too long", d.Rename("a", strings.Repeat("n", api.MaxName+1)), api.ErrArg)
	check(t, "P302", "longest", d.Rename("a", strings.Repeat("n", api.MaxName)), api.OK)
	check(t, "P302", "and back", d.Rename(strings.Repeat("n", api.MaxName), "a"), api.OK)
	all(t, d.Create("b"), d.Append("b", []byte("12")), d.Rename("b", "a"))
	check(t, "P302", "over another", files(d), "a=12")
	check(t, "P302", "over itself", d.Rename("a", "a"), api.OK)
	check(t, "P302", "over itself", files(d), "a=12")
	check(t, "P302", "steps", d.Steps(), 10)
	check(t, "P302", "taken", d.Rename("b", "c"), api.ErrNone)
	check(t, "P302", "the file goes on", d.Append("a", []byte("3")), api.OK)
	check(t, "P302", "the file goes on", files(d), "a=123")
}

func TestP302Remove(t *testing.T) {
	d := begun(t)
	check(t, "P302", "none", d.Remove("x"), api.ErrNone)
	check(t, "P302", "none", d.Remove(""), api.ErrNone)
	check(t, "P302", "there", d.Remove("a"), api.OK)
	check(t, "P302", "gone", files(d), "")
	check(t, "P302", "gone", d.Remove("a"), api.ErrNone)
}

func TestP302SyncDir(t *testing.T) {
	d := begun(t)
	all(t, d.Create("b"), d.Create("c"), d.Rename("b", "a"), d.Remove("c"), d.Create("d"), d.SyncDir(), d.SyncDir())
	all(t, d.Create("e"))
	d.Crash(nil)
	check(t, "P302", "sure", files(d), "a= d=")
	d.Crash([]int{1, 1, 1, 1, 1, 1})
	check(t, "P302", "nothing is pending", files(d), "a= d=")
}

func TestP302Do(t *testing.T) {
	for _, o := range kinds() {
		one, other := New(50), New(50)
		for _, d := range []*Disk{one, other} {
			all(t, d.Create("a"), d.Create("b"), d.Append("b", []byte("12")))
		}
		check(t, "P302", fmt.Sprint("Do ", o.Kind), one.Do(o), call(other, o))
		check(t, "P302", fmt.Sprint("Do ", o.Kind), shown(one), shown(other))
		one.Crash([]int{1, 1, 1, 5, 0, 5})
		other.Crash([]int{1, 1, 1, 5, 0, 5})
		check(t, "P302", fmt.Sprint("Do ", o.Kind), shown(one), shown(other))
	}
	for _, kind := range []int{-1, 6, 7, 255, 256, math.MinInt, math.MaxInt} {
		d := begun(t)
		d.Fuse(0)
		d.Fault(0)
		o := api.Op{Kind: kind, Name: "a", To: "b", Bytes: []byte("x")}
		check(t, "P302", fmt.Sprint("Do ", kind), d.Do(o), api.ErrArg)
		check(t, "P302", fmt.Sprint("Do ", kind), shown(d), "a=abc(0) room 1048573 steps 4 on true")
		check(t, "P302", "the fuse", d.Sync("a"), api.ErrOff)
		check(t, "P302", "ahead of no power", d.Do(o), api.ErrArg)
	}
}

func TestP302DoLooksAtItsOwnFieldsAlone(t *testing.T) {
	d := New(3)
	all(t, d.Do(api.Op{Kind: 0, Name: "a", To: strings.Repeat("x", 99), Bytes: make([]byte, 99)}))
	all(t, d.Do(api.Op{Kind: 1, Name: "a", To: strings.Repeat("x", 99), Bytes: []byte("1")}))
	all(t, d.Do(api.Op{Kind: 2, Name: "a", To: "x", Bytes: make([]byte, 99)}))
	all(t, d.Do(api.Op{Kind: 3, Name: "a", To: "b", Bytes: make([]byte, 99)}))
	all(t, d.Do(api.Op{Kind: 5, Name: "x", To: "x", Bytes: make([]byte, 99)}))
	check(t, "P302", "Do", shown(d), "b=1(0) room 2 steps 5 on true")
	all(t, d.Do(api.Op{Kind: 4, Name: "b", To: "x", Bytes: make([]byte, 99)}))
	check(t, "P302", "Do", shown(d), "room 3 steps 6 on true")
}

func TestP303(t *testing.T) {
	d := New(20)
	check(t, "P303", "an empty directory", len(d.List()), 0)
	for _, name := range []string{"b", "a", "ab", "B", "\xff", "é", "10", "9"} {
		all(t, d.Create(name), d.Append(name, []byte(name)))
	}
	check(t, "P303", "rising", strings.Join(d.List(), " "), "10 9 B a ab b é \xff")
	check(t, "P303", "room", d.Room(), 9)
	got, e := d.Read("ab")
	check(t, "P303", "Read", string(got), "ab")
	check(t, "P303", "Read", e, api.OK)
	got, e = d.Read("x")
	check(t, "P303", "Read of none", e, api.ErrNone)
	check(t, "P303", "Read of none", len(got), 0)
	_, e = d.Read("")
	check(t, "P303", "Read of no name", e, api.ErrNone)
	d.Fuse(0)
	check(t, "P303", "power", d.On(), true)
	d.Sync("a")
	check(t, "P303", "power", d.On(), false)
	for _, name := range []string{"a", "x", ""} {
		got, e = d.Read(name)
		check(t, "P303", "Read without power", e, api.ErrOff)
		check(t, "P303", "Read without power", len(got), 0)
	}
	check(t, "P303", "List without power", len(d.List()), 0)
	check(t, "P303", "Room without power", d.Room(), 9)
	check(t, "P303", "Steps without power", d.Steps(), 16)
}

func TestP304Tail(t *testing.T) {
	for _, x := range []struct {
		keep []int
		want string
	}{
		{nil, ""}, {[]int{0}, ""}, {[]int{0, 1}, ""}, {[]int{-1, 1}, ""}, {[]int{math.MinInt, 1}, ""},
		{[]int{1}, "d"}, {[]int{2, 2}, "de"}, {[]int{3, -2}, "def"}, {[]int{4}, "def"}, {[]int{math.MaxInt}, "def"},
		{[]int{1, 1}, spoilt("d")}, {[]int{2, 3}, spoilt("de")}, {[]int{3, -1}, spoilt("def")}, {[]int{9, math.MinInt + 1}, spoilt("def")},
		{[]int{2, math.MinInt}, "de"}, {[]int{1, 0, 1, 1, 1}, "d"},
	} {
		d := begun(t)
		all(t, d.Append("a", []byte("d")), d.Append("a", []byte("ef")))
		d.Crash(x.keep)
		check(t, "P304", fmt.Sprint(x.keep), files(d), "a=abc"+x.want)
		d.Crash([]int{0, 1, 0, 1})
		check(t, "P304", "all bytes are sure", files(d), "a=abc"+x.want)
		all(t, d.Append("a", []byte("xyz")))
		d.Crash([]int{1})
		check(t, "P304", "and a tail behind them", files(d), "a=abc"+x.want+"x")
	}
}

func TestP304Sectors(t *testing.T) {
	const s = api.Sector
	sizes := []int{0, 1, s - 1, s, s + 1, 2*s - 1, 2 * s, 2*s + 1, 3 * s}
	for _, sure := range sizes {
		for _, tail := range sizes[1:] {
			for _, stay := range append([]int{tail - 1}, sizes...) {
				d := New(1 << 20)
				whole := bytes.Repeat([]byte("x"), sure+tail)
				all(t, d.Create("a"), d.Append("a", whole[:sure]), d.Sync("a"), d.SyncDir(), d.Append("a", whole[sure:]))
				d.Crash([]int{stay, 1})
				want := whole[:sure+min(stay, tail)]
				for i := range want {
					if i >= sure && i/s == (len(want)-1)/s {
						want[i] ^= 165
					}
				}
				got, _ := d.Read("a")
				if !bytes.Equal(got, want) {
					t.Errorf("P304: %d sure, tail %d, stay %d", sure, tail, stay)
				}
			}
		}
	}
}

func TestP304Acts(t *testing.T) {
	for _, x := range []struct {
		keep []int
		want string
	}{
		{nil, "a=abc z=Z"},
		{[]int{2, 4, -2, 0, 0, 0}, "a=abc z=Z"},
		{[]int{1}, "a=abc n=new z=Z"},
		{[]int{-1}, "a=abc n=new z=Z"},
		{[]int{1, 1}, "a=new z=Z"},
		{[]int{0, 1}, "a=abc z=Z"},          // passed over, with its number
		{[]int{0, 1, 1}, "a=abc"},           // z is taken away
		{[]int{0, 0, 1, 1}, "a=abc z="},     // a new z
		{[]int{0, 0, 0, 1}, "a=abc z="},     // the new z in the old one's place
		{[]int{0, 0, 0, 0, 1}, "b=abc z=Z"}, // the name that stands there now
		{[]int{0, 0, 0, 0, 1, 1}, "b=abc z=Z"},
		{[]int{0, 0, 0, 0, 0, 1}, "a=abc z=Z"},
		{[]int{1, 1, 1, 1, 1, 1}, "b=new z="},
		{[]int{1, 0, 1, 0, 1, 0}, "b=abc n=new"},
		{[]int{1, 1, 1, 1, 1, 1, 1, 1, 1}, "b=new z="},
	} {
		d := begun(t)
		all(t, d.Create("z"), d.Append("z", []byte("Z")), d.Sync("z"), d.SyncDir())
		all(t, d.Create("n"), d.Append("n", []byte("new")), d.Sync("n"))
		all(t, d.Rename("n", "a"), d.Remove("z"), d.Create("z"), d.Rename("a", "b"), d.Rename("b", "b"))
		d.Crash(x.keep)
		check(t, "P304", fmt.Sprint(x.keep), files(d), x.want)
		d.Crash([]int{1, 1, 1, 1, 1, 1, 1})
		check(t, "P304", "nothing is pending", files(d), x.want)
		all(t, d.Create("q"))
		d.Crash(nil)
		check(t, "P304", "the directory is the sure one", files(d), x.want)
	}
}

func TestP304RemoveIsPassedOver(t *testing.T) {
	d := begun(t)
	all(t, d.Create("b"), d.Remove("b"), d.Append("a", []byte("de")))
	d.Crash([]int{0, 1, 1, 0})
	check(t, "P304", "passed over, with its number", files(d), "a=abcd")
	d = begun(t)
	all(t, d.Rename("a", "a"), d.Append("a", []byte("de")))
	d.Crash([]int{0, 1, 0})
	check(t, "P304", "a name given to its own file is an act", files(d), "a=abcd")
}

func TestP304RenameGoesByNames(t *testing.T) {
	d := begun(t)
	all(t, d.Create("b"), d.Append("b", []byte("B")), d.Sync("b"), d.SyncDir())
	all(t, d.Rename("a", "b"), d.Rename("b", "c"))
	d.Crash([]int{0, 1})
	check(t, "P304", "the sure directory's b", files(d), "a=abc c=B")
}

func TestP304FilesTakeTheirNumbersInOrder(t *testing.T) {
	d := New(100)
	for _, name := range []string{"c", "a", "e", "b", "d"} {
		all(t, d.Create(name), d.Append(name, []byte("123")))
	}
	all(t, d.SyncDir(), d.Sync("b"), d.Create("f"), d.Append("f", []byte("456")), d.Rename("a", "g"))
	// f is lost; a goes on as g; b has no tail; c keeps nothing, but takes both its numbers.
	d.Crash([]int{0, 1, 0, 1, 1, 1, 2, 0, 3, 0, 9, 9})
	check(t, "P304", "numbers", files(d), "b=123 c= d="+spoilt("1")+" e=12 g=123")
}

func TestP304FilesThatComeBack(t *testing.T) {
	d := New(10)
	all(t, d.Create("a"), d.Append("a", []byte("12345")), d.Sync("a"), d.SyncDir(), d.Append("a", []byte("678")), d.Remove("a"))
	check(t, "P302", "room", d.Room(), 10)
	all(t, d.Create("b"), d.Append("b", []byte("abcdefgh")), d.Sync("b"))
	d.Crash([]int{0, 1, 2, 0})
	check(t, "P304", "both", files(d), "a=1234567 b=abcdefgh")
	check(t, "P303", "the quota less all bytes", d.Room(), -5)
	check(t, "P302", "longer than the quota", d.Append("a", nil), api.ErrFull)
	all(t, d.Remove("b"), d.Append("a", []byte("890")))
	check(t, "P302", "room", d.Room(), 0)
}

func TestP304Power(t *testing.T) {
	d := begun(t)
	d.Fuse(0)
	d.Sync("a")
	d.Fuse(0)
	d.Fault(0)
	d.Crash(nil)
	check(t, "P304", "on again", shown(d), "a=abc(0) room 1048573 steps 4 on true")
	all(t, d.Sync("a"), d.Sync("a"))
}

func TestP305New(t *testing.T) {
	for _, x := range []struct{ quota, want int }{
		{0, 0}, {-1, 0}, {math.MinInt, 0}, {1, 1}, {api.MaxQuota - 1, api.MaxQuota - 1},
		{api.MaxQuota, api.MaxQuota}, {api.MaxQuota + 1, api.MaxQuota}, {math.MaxInt, api.MaxQuota},
	} {
		d := New(x.quota)
		check(t, "P305", fmt.Sprint("New ", x.quota), d.Room(), x.want)
		check(t, "P305", fmt.Sprint("New ", x.quota), d.On(), true)
		check(t, "P305", fmt.Sprint("New ", x.quota), len(d.List()), 0)
		check(t, "P305", fmt.Sprint("New ", x.quota), d.Steps(), 0)
		d.Crash([]int{1, 1})
		check(t, "P305", fmt.Sprint("New ", x.quota), len(d.List()), 0)
	}
	d := New(0)
	all(t, d.Create("a"), d.Append("a", nil))
	check(t, "P305", "no room", d.Append("a", []byte("1")), api.ErrFull)
}

func TestP305Memory(t *testing.T) {
	d := New(100)
	given := []byte("abcdef")
	all(t, d.Create("a"), d.Append("a", given[:3]), d.SyncDir())
	check(t, "P305", "not changed", string(given), "abcdef")
	given[0] = '!'
	check(t, "P305", "not kept", files(d), "a=abc")
	got, _ := d.Read("a")
	got[1] = '!'
	got = append(got, "...."...)
	check(t, "P305", "new memory", files(d), "a=abc")
	all(t, d.Append("a", []byte("gh")))
	check(t, "P305", "new memory", string(got), "a!c....")
	names := d.List()
	names[0] = "x"
	check(t, "P305", "new memory", files(d), "a=abcgh")
	keep := []int{5, 1, 7}
	d.Crash(keep)
	check(t, "P305", "not changed", slices.Equal(keep, []int{5, 1, 7}), true)
	check(t, "P305", "not changed", string(got), "a!c....")
	check(t, "P305", "not changed", string(given), "!bcdef")
}

func TestP305TwoDisks(t *testing.T) {
	one, other := New(10), New(10)
	all(t, one.Create("a"), one.Append("a", []byte("1")), one.SyncDir())
	one.Fault(0)
	other.Fuse(3)
	check(t, "P305", "two disks", shown(other), "room 10 steps 0 on true")
	all(t, other.Create("a"), other.Create("b"))
	check(t, "P305", "two disks", one.Sync("a"), api.ErrIO)
	other.Crash(nil)
	check(t, "P305", "two disks", shown(one), "a=1(0) room 9 steps 3 on true")
}

func TestDiskThatWasNotMade(t *testing.T) {
	var d Disk
	check(t, "rule 1", "no power", d.Create("a"), api.ErrOff)
	d.Crash([]int{1})
	all(t, d.Create("a"), d.SyncDir(), d.Rename("a", "b"))
	d.Crash(nil)
	check(t, "rule 1", "as any other", shown(&d), "a=(0) room 0 steps 3 on true")
}

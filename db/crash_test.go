package db

import (
	"bytes"
	"fmt"
	"slices"
	"testing"

	"lysimeter/api"
	"lysimeter/disk"
)

// call is a call of a database, under a name.
type call struct {
	name string
	do   func(b *DB) api.Errno
}

func write(rows ...api.Row) call {
	return call{fmt.Sprint("Write ", rows), func(b *DB) api.Errno { return b.Write(rows) }}
}

func note(kind int, s string) call {
	return call{fmt.Sprint("Note ", kind, s), func(b *DB) api.Errno { return b.Note(kind, []byte(s)) }}
}

func retain(low int) call {
	return call{fmt.Sprint("Retain ", low), func(b *DB) api.Errno { return b.Retain(low) }}
}

func flush() call   { return call{"Flush", (*DB).Flush} }
func compact() call { return call{"Compact", (*DB).Compact} }

// script goes through all that a database lays on its disk and takes away from it: flushes of its own, blocks put together and dropped, notes anew.
func script() []call {
	l := []call{note(9, "first"), write(row("a", 1, 1), row("b", 1, 2)), write(row("a", 2, 3)), flush()}
	for i := range 3 {
		l = append(l, write(row("a", 2, 10+i), row("c", 3+i, i)), note(1+i, fmt.Sprint("n", i)), flush())
	}
	l = append(l, compact(), write(row("a", 2, 20)), retain(2), note(9, "second"), flush())
	for i := range 4 {
		l = append(l, write(row("b", 10+i, i), row("a", 9, i)), write(row("d", 5+i, i)))
	}
	return append(l, compact(), retain(9), compact(), write(row("a", 9, 30)), note(9, ""))
}

// states is what a database tells ahead of each call of the script, and behind the last one.
func states(t *testing.T, l []call, cfg api.Config) []string {
	t.Helper()
	b := opened(t, "P2001", disk.New(1<<20), cfg)
	out := []string{shown(b)}
	for _, c := range l {
		all(t, c.do(b))
		out = append(out, shown(b))
	}
	return out
}

// play does the calls from one on, up to the first that fails or to the last, and tells which one that is.
func play(b *DB, l []call, from int) int {
	for i := from; i < len(l); i++ {
		if l[i].do(b) != api.OK {
			return i
		}
	}
	return len(l)
}

// keeps is lists of what stays of all that was not sure: nothing, all, each of two halves, and tails of some lengths, spoilt and not.
func keeps() [][]int {
	out := [][]int{nil, slices.Repeat([]int{1}, 20), slices.Repeat([]int{0, 1}, 10), slices.Repeat([]int{1, 0}, 10)}
	for _, k := range []int{2, 9, 40, 1 << 20} {
		out = append(out, slices.Repeat([]int{k}, 20), slices.Repeat([]int{k + 1}, 20), slices.Repeat([]int{1, 1, k, 0}, 5))
	}
	return out
}

// TestP2004Script lets the power go at each step of the script, and at each step of the Open behind it, and keeps what was not sure in many ways.
func TestP2004Script(t *testing.T) {
	cfg := api.Config{Window: 100, Hold: 4}
	l := script()
	want := states(t, l, cfg)
	for n := 0; ; n++ {
		for k, keep := range keeps() {
			for again := range 3 {
				d := disk.New(1 << 20)
				b := opened(t, "P2001", d, cfg)
				d.Fuse(n)
				at := play(b, l, 0)
				if at == len(l) {
					check(t, "P2004", "steps of the script", n > 150, true)
					return
				}
				check(t, "P2003", "of a dead database", shown(b), want[at])
				d.Crash(keep)
				d.Fuse((n*7+k*3+again*4)%11 + again)
				o, errno := Open(d, cfg)
				if errno == api.OK {
					told := shown(o)
					d.Crash(keep)
					check(t, "P2004", "what an Open has told is sure", shown(opened(t, "P2004", d, cfg)), told)
				} else {
					d.Crash(keep)
				}
				goOn(t, fmt.Sprint(n, ", ", keep), d, l, at, want)
			}
		}
	}
}

// goOn opens the disk, on which the call failed that stands at a place of the script, and plays the rest of it.
func goOn(t *testing.T, name string, d *disk.Disk, l []call, at int, want []string) {
	t.Helper()
	cfg := api.Config{Window: 100, Hold: 3}
	b := opened(t, "P2004", d, cfg)
	told := shown(b)
	if told != want[at] && told != want[at+1] {
		t.Fatalf("P2004: %s: %s in doubt: %s\nneither %s\nnor %s", name, l[at].name, told, want[at], want[at+1])
	}
	check(t, "P2004", name+": the calls behind", play(b, l, at), len(l))
	check(t, "P2004", name+": at the end", shown(b), want[len(l)])
	d.Crash(nil)
	check(t, "P2004", name+": at the end, crashed", shown(opened(t, "P2004", d, cfg)), want[len(l)])
}

// TestP2004Faults lets each step of the script fail, with no crash behind it, or with one behind the Open.
func TestP2004Faults(t *testing.T) {
	cfg := api.Config{Window: 100, Hold: 4}
	l := script()
	want := states(t, l, cfg)
	for n := 0; ; n++ {
		for k, keep := range append(keeps(), []int{-1}) {
			d := disk.New(1 << 20)
			b := opened(t, "P2001", d, cfg)
			d.Fault(n)
			at := play(b, l, 0)
			if at == len(l) {
				check(t, "P2004", "steps of the script", n > 150, true)
				return
			}
			check(t, "P2003", "of a dead database", shown(b), want[at])
			d.Fault(k % 9)
			o, errno := Open(d, cfg)
			d.Fault(-1)
			if errno == api.OK {
				told := shown(o)
				d.Crash(keep)
				check(t, "P2004", "what an Open has told is sure", shown(opened(t, "P2004", d, cfg)), told)
			} else if k%2 == 0 {
				d.Crash(keep)
			}
			goOn(t, fmt.Sprint(n, ", ", keep), d, l, at, want)
		}
	}
}

// TestP2004Twice lets a call fail again and again, at each of its steps, without a crash and with one: it never does more than all or nothing, and leaves nothing on the disk behind the one that does not fail.
func TestP2004Twice(t *testing.T) {
	cfg := api.Config{Window: 100, Hold: 4}
	l := script()
	want := states(t, l, cfg)
	whole := disk.New(1 << 20)
	check(t, "P2004", "the whole script", play(opened(t, "P2001", whole, cfg), l, 0), len(l))
	for _, crash := range []bool{false, true} {
		d := disk.New(1 << 20)
		at, most := 0, 0
		for n := 0; at < len(l); n++ {
			b := opened(t, "P2004", d, cfg)
			told := shown(b)
			if told != want[at] && told != want[at+1] {
				t.Fatalf("P2004: %s in doubt: %s", l[at].name, told)
			}
			d.Fault(n % 60)
			was := at
			at = play(b, l, at)
			d.Fault(-1)
			if at > was {
				n = 0
			}
			most = max(most, n)
			if crash {
				d.Crash(keeps()[n%len(keeps())])
			}
		}
		check(t, "P2004", "steps of a call", most > 10, true)
		b := opened(t, "P2004", d, cfg)
		check(t, "P2004", "at the end", shown(b), want[len(l)])
		all(t, b.Flush(), b.Compact())
		check(t, "P2004", "at the end, put away", shown(opened(t, "P2004", d, cfg)), want[len(l)])
		if names := len(d.List()); names > 6 {
			t.Errorf("P2004: %d files are left: %v", names, d.List())
		}
	}
}

// TestP2004NoRoom: an Open needs no room at all, whatever was left behind.
func TestP2004NoRoom(t *testing.T) {
	cfg := api.Config{Window: 100, Hold: 4}
	l := script()
	want := states(t, l, cfg)
	full := 0
	for quota := 0; ; quota += 3 {
		d := disk.New(quota)
		b := opened(t, "P2004", d, cfg)
		at := play(b, l, 0)
		if at == len(l) {
			break
		}
		full++
		check(t, "P2003", "of a dead database", shown(b), want[at])
		check(t, "P2002", "dead", b.Write(nil), api.ErrDead)
		for range 2 {
			check(t, "P2004", fmt.Sprint("quota ", quota), shown(opened(t, "P2004", d, cfg)), want[at])
			d.Crash(keeps()[quota%len(keeps())])
		}
	}
	check(t, "P2004", "disks that were full", full > 50, true)
}

// TestP2004ErrFull: what there is no room for kills the database, and tells so.
func TestP2004ErrFull(t *testing.T) {
	d := disk.New(200)
	b := opened(t, "P2004", d, api.Config{})
	all(t, b.Note(1, []byte("n")))
	check(t, "P2002", "no room", b.Note(2, bytes.Repeat([]byte("x"), 200)), api.ErrFull)
	dead(t, "no room", b, "0 -9007199254740992 1 1 n ")
}

package db

import (
	"bytes"
	"fmt"
	"math/rand"
	"strings"
	"testing"

	"lysimeter/api"
	"lysimeter/disk"
)

// longest is labels that need as much room as any.
func longest(r *rand.Rand) []api.Label {
	var l []api.Label
	for i := range api.MaxLabels {
		value := bytes.Repeat([]byte{0xff}, api.MaxLabel)
		r.Read(value[:4])
		l = append(l, api.Label{Name: strings.Repeat("n", api.MaxLabel-1) + string(rune('a'+i)), Value: string(value)})
	}
	return l
}

// spender does calls that need much room, and counts what the promise does.
type spender struct {
	r           *rand.Rand
	cfg         api.Config
	n, noted    int
	now         int
	rows, notes int // of a call at most
	failing     bool
}

// given is a disk that has just so much room as the promise asks for those calls.
func (s *spender) given() int {
	return 1<<16 + 1<<15*s.n + 4*s.noted
}

// calls is so many calls; none does anything yet, but the room that they need is known.
func (s *spender) calls(count int) []call {
	var l []call
	for range count {
		s.n++
		switch s.r.Intn(6) {
		case 0:
			l = append(l, flush())
		case 1:
			l = append(l, compact())
		case 2, 3:
			note := make([]byte, s.r.Intn(s.notes+1))
			s.n++
			s.noted += len(note)
			kind := 1 + s.r.Intn(3)
			l = append(l, call{"Note", func(b *DB) api.Errno { return b.Note(kind, note) }})
		default:
			var rows []api.Row
			for range 1 + s.r.Intn(s.rows) {
				s.n++
				s.now += s.r.Intn(1 << 40)
				rows = append(rows, api.Row{Labels: longest(s.r), Sample: api.Sample{T: s.now, V: s.r.Int() - s.r.Int()}})
			}
			l = append(l, write(rows...))
		}
	}
	return l
}

// spend does the calls on a disk of that room; faults come in between, and each Open is a call, too.
func (s *spender) spend(t *testing.T, l []call, quota int) {
	d := disk.New(quota)
	b := opened(t, "P2006", d, s.cfg)
	for i, c := range l {
		if s.failing && s.r.Intn(3) == 0 {
			d.Fault(s.r.Intn(25))
		}
		errno := c.do(b)
		if errno == api.ErrIO {
			b = opened(t, "P2006", d, s.cfg)
			continue
		}
		if errno != api.OK {
			t.Fatalf("P2006: call %d of %d, %s: %v, with %d bytes of %d left", i, len(l), c.name[:5], errno, d.Room(), quota)
		}
	}
}

// TestP2006 gives databases just the room that is promised to be enough.
func TestP2006(t *testing.T) {
	for seed := range 200 {
		r := rand.New(rand.NewSource(int64(seed)))
		s := &spender{r: r, failing: seed%4 == 3, rows: 1 + r.Intn(12), notes: []int{0, 100, 65536}[seed%3]}
		s.cfg = api.Config{Window: 1 << 50, Hold: []int{1, 2, 10, 1000}[r.Intn(4)]}
		l := s.calls(1 + r.Intn(40))
		if s.given() > api.MaxQuota {
			continue
		}
		s.spend(t, l, s.given())
	}
}

// TestP2006NotesAlone: of notes that are noted anew, the log does not grow without end.
func TestP2006NotesAlone(t *testing.T) {
	d := disk.New(api.MaxQuota)
	b := opened(t, "P2006", d, api.Config{})
	for i := range 300 {
		all(t, b.Note(1+i%2, bytes.Repeat([]byte{byte(i)}, 65536)))
		if used := api.MaxQuota - d.Room(); used > 1<<21 {
			t.Fatalf("P2006: %d bytes behind %d notes", used, i+1)
		}
	}
	was := shown(b)
	check(t, "P2005", "notes", shown(opened(t, "P2005", d, api.Config{})) == was, true)
}

// TestP2006RetainGivesRoom: what lies below the watermark is taken off the disk.
func TestP2006RetainGivesRoom(t *testing.T) {
	d := disk.New(api.MaxQuota)
	b := opened(t, "P2006", d, api.Config{Hold: 50})
	most := 0
	for i := range 3000 {
		all(t, b.Write([]api.Row{row(fmt.Sprint(i%9), i, i*i*i)}), b.Retain(i-100))
		if i > 1000 {
			most = max(most, api.MaxQuota-d.Room())
		}
	}
	if most > 40000 {
		t.Errorf("P2006: %d bytes for some hundred samples", most)
	}
}

// TestP2006ManyFlushes: each flush makes a block, and there is room for only so many in a manifest.
func TestP2006ManyFlushes(t *testing.T) {
	d := disk.New(api.MaxQuota)
	b := opened(t, "P2006", d, api.Config{})
	for i := range 700 {
		all(t, b.Write([]api.Row{row("a", i, i)}), b.Flush())
		if len(b.manifest.Blocks) > crowded {
			t.Fatalf("P2006: %d blocks", len(b.manifest.Blocks))
		}
	}
	want := seriesShown([]api.Series{{Labels: of("a", "a"), Samples: b.samples.Samples(of("a", "a"))}})
	b = opened(t, "P2006", d, api.Config{})
	check(t, "P2005", "behind many flushes", queried(t, b, 0, 700), want)
	newest, _ := b.Newest(of("a", "a"))
	check(t, "P2005", "the last one", newest, 699)
}

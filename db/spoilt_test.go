package db

import (
	"bytes"
	"fmt"
	"testing"

	"lysimeter/api"
	"lysimeter/disk"
	"lysimeter/varint"
	"lysimeter/wal"
)

// replaced puts other bytes into a file, or takes it away.
func replaced(t *testing.T, d *disk.Disk, name string, b []byte) {
	t.Helper()
	all(t, d.Remove(name))
	if b != nil {
		all(t, d.Create(name), d.Append(name, b))
	}
}

// several leaves a database on the disk that has files of all kinds.
func several(t *testing.T) *disk.Disk {
	t.Helper()
	d := disk.New(1 << 20)
	b := opened(t, "P2001", d, api.Config{})
	all(t, b.Write([]api.Row{row("a", 1, 1)}), b.Note(1, []byte("n")), b.Flush())
	all(t, b.Write([]api.Row{row("b", 2, 2)}), b.Note(2, []byte("o")), b.Flush())
	all(t, b.Write([]api.Row{row("c", 3, 3)}), b.Note(3, []byte("p")), b.Retain(1))
	return d
}

// TestSpoilt: of bytes that no database writes none is made, or at least no call panics.
func TestSpoilt(t *testing.T) {
	names := several(t).List()
	check(t, "P2001", "files", len(names), 5)
	for _, name := range names {
		whole, _ := several(t).Read(name)
		spoilt := [][]byte{nil, {}, []byte("x"), append(bytes.Clone(whole), 0)}
		for i := range whole {
			turned := bytes.Clone(whole)
			turned[i] ^= 165
			spoilt = append(spoilt, turned, whole[:i])
		}
		for i, b := range spoilt {
			d := several(t)
			replaced(t, d, name, b)
			o, errno := Open(d, api.Config{})
			if i > 0 && (name == manifestName || name == blockName(1)) || i == 2 && name == notesName {
				check(t, "P2001", fmt.Sprint(name, " ", i), errno, api.ErrByte)
			}
			if errno != api.OK {
				check(t, "P2001", name, o, nil)
				continue
			}
			o.Flush()
			o.Compact()
			shown(o)
		}
	}
}

// TestForeignRecords: a log that has what no database writes is not taken for one.
func TestForeignRecords(t *testing.T) {
	for i, r := range []api.Record{
		{Kind: kindRows}, {Kind: kindRows, Bytes: []byte("LYS1")}, {Kind: kindLow}, {Kind: kindLow, Bytes: []byte{128}},
		{Kind: kindNote}, {Kind: kindNote + 1, Bytes: []byte("x")}, {Kind: 255},
	} {
		d := several(t)
		l, _, errno := wal.Open(d)
		all(t, errno, l.Append([]api.Record{r}))
		b, errno := Open(d, api.Config{})
		check(t, "P2001", fmt.Sprint("record ", i), errno, api.ErrByte)
		check(t, "P2001", fmt.Sprint("record ", i), b, nil)
	}
	d := several(t)
	l, _, errno := wal.Open(d)
	all(t, errno, l.Append([]api.Record{{Kind: kindLow, Bytes: varint.Signed(1 << 60)}}))
	b, errno := Open(d, api.Config{})
	all(t, errno)
	b.Flush() // fails, and does not panic
	check(t, "P2002", "Dead", b.Dead(), true)
}

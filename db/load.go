package db

import (
	"slices"

	"lysimeter/api"
	"lysimeter/fail"
	"lysimeter/frame"
	"lysimeter/manifest"
	"lysimeter/merge"
	"lysimeter/wal"
)

// load takes what the disk has.
func (b *DB) load() {
	fail.At(b.disk.SyncDir()) // ahead of all else: no crash may take back a name by which something is told, or for which another one is put away
	b.loadFiles()
	b.loadLog()
	b.sweep()
	l := append(b.blocks(b.byAge()), b.fresh.rows...)
	for _, s := range b.above(merge.Series(l)) {
		b.fill(s)
	}
}

// loadFiles takes the manifest and the notes; the log has all that these do not.
func (b *DB) loadFiles() {
	b.manifest = api.Manifest{Next: 1, Log: 1, Low: leastTime}
	if bytes, there := b.find(manifestName); there {
		m, errno := manifest.Unpack(bytes)
		fail.At(errno)
		b.manifest = m
	}
	b.low = b.manifest.Low
	if bytes, there := b.find(notesName); there {
		// They may be newer than the manifest: then the log has them, too, and the same ones last.
		l, end := frame.All(bytes)
		refuse(end < len(bytes))
		for _, r := range l {
			b.notes[r.Kind] = r.Bytes
		}
	}
}

// loadLog opens the log, and takes what it has.
func (b *DB) loadLog() {
	l, _, errno := wal.Open(b.disk)
	fail.At(errno)
	fail.At(l.Cut(b.manifest.Log)) // what a flush could not put away is in its block
	l, groups, errno := wal.Open(b.disk)
	fail.At(errno)
	b.log = l
	for _, g := range groups {
		for _, r := range g {
			b.take(r)
		}
	}
}

// fill puts a series into memory. Its samples rise, so that none comes too late, whatever the window.
func (b *DB) fill(s api.Series) {
	for part := range slices.Chunk(s.Samples, api.MaxBatch) {
		var rows []api.Row
		for _, x := range part {
			rows = append(rows, api.Row{Labels: s.Labels, Sample: x})
		}
		fail.At(b.samples.Write(rows))
	}
}

// refuse gives up, if bytes are not what a database writes.
func refuse(wrong bool) {
	if wrong {
		fail.At(api.ErrByte)
	}
}

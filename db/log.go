package db

import (
	"lysimeter/api"
	"lysimeter/block"
	"lysimeter/fail"
	"lysimeter/varint"
)

// The kinds of the log's records.
const (
	kindRows = iota + 1 // a block
	kindLow             // the watermark
	kindNote            // its kind in one byte, its bytes
)

// relieve flushes, if the log has enough, or would have too many samples with more of them. It comes ahead of what a call writes: while a step can fail, nothing that is told may change.
func (b *DB) relieve(more int) {
	if b.fresh.count+more > b.hold || b.fresh.bytes > mostLog {
		b.flush()
	}
}

// enter writes a record to the log, and takes it then.
func (b *DB) enter(kind int, bytes []byte) {
	r := api.Record{Kind: kind, Bytes: bytes}
	fail.At(b.log.Append([]api.Record{r}))
	b.take(r)
}

// take takes what a record of the log has. (The samples in memory are not its own: the log's rows go there one way as they are written, another way behind the blocks.)
func (b *DB) take(r api.Record) {
	b.fresh.bytes += len(r.Bytes)
	switch r.Kind {
	case kindRows:
		l, errno := block.Unpack(r.Bytes)
		fail.At(errno)
		b.fresh.rows = append(b.fresh.rows, l)
		for _, s := range l {
			b.fresh.count += len(s.Samples)
		}
	case kindLow:
		low, _, errno := varint.GetSigned(r.Bytes)
		fail.At(errno)
		b.low = max(b.low, low)
	case kindNote:
		refuse(len(r.Bytes) == 0)
		b.notes[int(r.Bytes[0])] = r.Bytes[1:]
		b.fresh.noted = true
	default:
		refuse(true)
	}
}

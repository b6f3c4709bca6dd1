package db

import (
	"cmp"
	"slices"

	"lysimeter/api"
	"lysimeter/block"
	"lysimeter/fail"
	"lysimeter/frame"
	"lysimeter/manifest"
	"lysimeter/merge"
)

// crowded is so many blocks that a flush puts them together ahead of adding one: a manifest has room for some more only.
const crowded = 64

// flush lays down in files what the log alone has, and takes it off the log.
func (b *DB) flush() {
	if b.fresh.bytes == 0 {
		return
	}
	if len(b.manifest.Blocks) >= crowded {
		b.compact()
	}
	first, errno := b.log.Roll()
	fail.At(errno)
	if b.fresh.noted {
		b.put(notesName, b.packedNotes())
	}
	m := b.left()
	m.Log = first
	if l := b.above(merge.Series(b.fresh.rows)); len(l) > 0 {
		m = b.added(m, l)
	}
	b.commit(m)
	fail.At(b.log.Cut(first))
	b.fresh = fresh{}
}

// added is the manifest with one more block, of these series, which is laid down.
func (b *DB) added(m api.Manifest, l []api.Series) api.Manifest {
	bytes, errno := block.Pack(l)
	fail.At(errno)
	from, to := block.Span(l)
	m, id, errno := manifest.Add(m, 0, from, to)
	fail.At(errno)
	b.put(blockName(id), bytes)
	return m
}

// packedNotes is all notes, each in a frame: their file has room for all kinds of the greatest length.
func (b *DB) packedNotes() []byte {
	var out []byte
	for _, r := range b.Notes() {
		one, errno := frame.Put(r.Kind, r.Bytes)
		fail.At(errno)
		out = append(out, one...)
	}
	return out
}

// compact puts blocks together, as long as there are some to be.
func (b *DB) compact() {
	if m := b.left(); len(m.Blocks) < len(b.manifest.Blocks) {
		b.commit(m)
	}
	for ids := manifest.Pick(b.manifest); len(ids) > 0; ids = manifest.Pick(b.manifest) {
		b.join(ids)
	}
}

// join puts the first of the blocks together to one of the next level. They are the oldest of their level, so that it is newer than all others of the next one, and older than all that stay.
func (b *DB) join(ids []int) {
	l, bytes, count := b.together(ids)
	from, to := block.Span(l)
	m, id, errno := manifest.Swap(b.manifest, ids[:count], b.level(ids[0])+1, from, to)
	fail.At(errno)
	b.put(blockName(id), bytes)
	b.commit(m)
}

// together is the series of the first of the blocks, as many as one file has room for, their bytes, and how many blocks these are. One alone stays as it is: it has room.
func (b *DB) together(ids []int) ([]api.Series, []byte, int) {
	l := b.blocks(ids)
	for count := len(l); count > 1; count-- {
		series := b.above(merge.Series(l[:count]))
		if bytes, errno := block.Pack(series); errno == api.OK {
			return series, bytes, count
		}
	}
	return l[0], b.get(blockName(ids[0])), 1
}

// blocks is the series of each of the blocks.
func (b *DB) blocks(ids []int) [][]api.Series {
	var out [][]api.Series
	for _, id := range ids {
		l, errno := block.Unpack(b.get(blockName(id)))
		fail.At(errno)
		out = append(out, l)
	}
	return out
}

// byAge is the Ids of all blocks, the oldest first: a level has older ones than all below it.
func (b *DB) byAge() []int {
	refs := slices.SortedFunc(slices.Values(b.manifest.Blocks), func(x, y api.Ref) int {
		return cmp.Or(cmp.Compare(y.Level, x.Level), cmp.Compare(x.Id, y.Id))
	})
	var ids []int
	for _, x := range refs {
		ids = append(ids, x.Id)
	}
	return ids
}

// level is that of a block.
func (b *DB) level(id int) int {
	at := slices.IndexFunc(b.manifest.Blocks, func(x api.Ref) bool { return x.Id == id })
	return b.manifest.Blocks[at].Level
}

// left is the manifest without the blocks of which the watermark has left nothing. Each other one has a sample that is left: that of its greatest time.
func (b *DB) left() api.Manifest {
	m := b.manifest
	m.Blocks = slices.DeleteFunc(slices.Clone(m.Blocks), func(x api.Ref) bool { return x.To <= b.low })
	return m
}

// above is the series with what is left of their samples.
func (b *DB) above(l []api.Series) []api.Series {
	return within(l, b.low, behind)
}

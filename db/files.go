package db

import (
	"slices"
	"strconv"
	"strings"

	"lysimeter/api"
	"lysimeter/disk"
	"lysimeter/fail"
	"lysimeter/manifest"
)

// The names of a database's files, beside its log's.
const (
	prefix       = "db-"
	manifestName = prefix + "manifest"
	notesName    = prefix + "notes"
	asideName    = prefix + "aside"
	blockPrefix  = prefix + "block-" // behind it the block's Id
)

// commit makes m the manifest. With its name being sure, all that it names is what the database has, and the files that it does not name are put away.
func (b *DB) commit(m api.Manifest) {
	m.Low = b.low
	bytes, errno := manifest.Pack(m)
	fail.At(errno)
	b.put(manifestName, bytes)
	b.manifest = m
	b.sweep()
}

// sweep puts away the files that the manifest has no use of: those that were put together, and those that were not finished.
func (b *DB) sweep() {
	used := []string{manifestName, notesName}
	for _, x := range b.manifest.Blocks {
		used = append(used, blockName(x.Id))
	}
	swept := false
	for _, name := range b.disk.List() {
		if strings.HasPrefix(name, prefix) && !slices.Contains(used, name) {
			fail.At(b.disk.Remove(name))
			swept = true
		}
	}
	if swept {
		fail.At(b.disk.SyncDir()) // ahead of giving the name to another file, or a crash could bring the old one back under it
	}
}

// find is the bytes of a file, if it is there.
func (b *DB) find(name string) ([]byte, bool) {
	bytes, errno := b.disk.Read(name)
	if errno == api.ErrNone {
		return nil, false
	}
	fail.At(errno)
	return bytes, true
}

// get is the bytes of a file that is there.
func (b *DB) get(name string) []byte {
	bytes, errno := b.disk.Read(name)
	fail.At(errno)
	return bytes
}

// blockName is the name of a block's file.
func blockName(id int) string {
	return blockPrefix + strconv.Itoa(id)
}

// put lays a file down under its name, where another one may have been: whatever fails, there is the one or the other, and never a part.
func (b *DB) put(name string, bytes []byte) {
	f := file{b.disk, name, bytes}
	for _, step := range []func() api.Errno{f.create, f.write, f.sync, f.rename, b.disk.SyncDir} {
		fail.At(step())
	}
}

// file is a file that is laid down, aside first.
type file struct {
	disk  *disk.Disk
	name  string
	bytes []byte
}

func (f file) create() api.Errno { return f.disk.Create(asideName) }
func (f file) write() api.Errno  { return f.disk.Append(asideName, f.bytes) }
func (f file) sync() api.Errno   { return f.disk.Sync(asideName) }
func (f file) rename() api.Errno { return f.disk.Rename(asideName, f.name) }

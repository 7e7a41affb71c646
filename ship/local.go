package ship

import (
	"strings"

	"barograph/api"
	"barograph/block"
	"barograph/disk"
	"barograph/ident"
	"barograph/meta"
	"barograph/wal"
)

const (
	localPrefix = "blk-"
	hyphen      = "-" // between a local block's name and its part
)

// localFile: the name of a local block's file.
func localFile(id, part string) string {
	return localPrefix + id + hyphen + part
}

// parts: a block's parts, in the order in which they are written: the meta last, as it says that the others are there.
var parts = [...]string{ident.Chunks, ident.Index, ident.Meta}

// bytesOf: those of a part.
func bytesOf(f block.Files, part string) string {
	switch part {
	case ident.Chunks:
		return f.Chunks
	case ident.Index:
		return f.Index
	}
	return meta.Encode(f.Meta)
}

// Save: a block is there, for sure: its meta last.
func Save(d *disk.Disk, f block.Files) api.Errno {
	size := 0
	for _, part := range parts {
		size += len(bytesOf(f, part))
	}
	// Asked ahead of the first file: what finds no room changes nothing.
	if size > d.Free() {
		return api.ErrFull
	}
	for _, part := range parts {
		if err := wal.Fresh(d, localFile(f.Meta.ID, part), bytesOf(f, part)); err != api.OK {
			return err
		}
	}
	return api.OK
}

// Load: a local block.
func Load(d *disk.Disk, id string) (block.Files, api.Errno) {
	said, err := d.Read(localFile(id, ident.Meta))
	if err != api.OK {
		return block.Files{}, err
	}
	m, err := meta.Decode(said)
	if err != api.OK {
		return block.Files{}, err
	}
	chunks, err := d.Read(localFile(id, ident.Chunks))
	if err != api.OK {
		return block.Files{}, err
	}
	index, err := d.Read(localFile(id, ident.Index))
	if err != api.OK {
		return block.Files{}, err
	}
	if !m.Files[0].Holds(chunks) || !m.Files[1].Holds(index) {
		return block.Files{}, api.ErrSum
	}
	return block.Files{Meta: m, Chunks: chunks, Index: index}, api.OK
}

// isWhole: is there a whole local block of that name?
func isWhole(d *disk.Disk, id string) bool {
	_, err := Load(d, id)
	return err == api.OK
}

// Locals: the local blocks, rising.
func Locals(d *disk.Disk) []string {
	var l []string
	for _, name := range d.List(localPrefix) {
		id, isMeta := strings.CutSuffix(name[len(localPrefix):], hyphen+ident.Meta)
		if isMeta && isWhole(d, id) {
			l = append(l, id)
		}
	}
	return l
}

// Erase: a local block is gone: its meta first.
func Erase(d *disk.Disk, id string) api.Errno {
	// While the meta may be there, what it tells of must be, too.
	for i := range parts {
		part := parts[len(parts)-1-i]
		if err := remove(d, localFile(id, part)); err != api.OK {
			return err
		}
	}
	return api.OK
}

// Tidy: files of blocks that aren't whole are gone.
func Tidy(d *disk.Disk) api.Errno {
	for _, name := range d.List(localPrefix) {
		id, _, _ := strings.Cut(name[len(localPrefix):], hyphen)
		if isWhole(d, id) {
			continue
		}
		if err := d.Remove(name); err != api.OK {
			return err
		}
	}
	return api.OK
}

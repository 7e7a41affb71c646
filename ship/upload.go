package ship

import (
	"slices"

	"barograph/api"
	"barograph/block"
	"barograph/bucket"
	"barograph/ident"
)

// Upload is a block on its way into a bucket.
type Upload struct {
	block block.Files
	put   int // how many of its parts are put
}

// NewUpload: nothing is put yet.
func NewUpload(f block.Files) *Upload {
	return &Upload{block: own(f)}
}

// own: the same block, whose lists are nobody else's.
func own(f block.Files) block.Files {
	f.Meta.Files = slices.Clone(f.Meta.Files)
	f.Meta.Sources = slices.Clone(f.Meta.Sources)
	return f
}

// Block: the block.
func (u *Upload) Block() block.Files {
	return own(u.block)
}

// Done: is all put?
func (u *Upload) Done() bool {
	return u.put == len(parts)
}

// Late: is a block older than the grace allows?
func Late(id string, now, grace int) bool {
	tick, _, err := ident.Parse(id)
	return err != api.OK || now-tick >= grace
}

// Step: one more object: chunks, index, meta last; not when the block is too old.
func (u *Upload) Step(b *bucket.Bucket, now, grace int) api.Errno {
	if u.Done() {
		return api.ErrIdle
	}
	id := u.block.Meta.ID
	if Late(id, now, grace) {
		return api.ErrStale
	}
	part := parts[u.put]
	if err := b.Put(ident.Object(id, part), bytesOf(u.block, part), now); err != api.OK {
		// It may be there, or not: it is put again, so that the meta never comes ahead of it.
		return err
	}
	u.put++
	return api.OK
}

package scan

import (
	"barograph/api"
	"barograph/bucket"
	"barograph/listing"
)

// Update keeps a bucket's index: it scans, and puts what it found.
type Update struct {
	*Scan
	put bool
}

// NewUpdate: nothing is looked at yet.
func NewUpdate() *Update {
	return &Update{Scan: New()}
}

// Done: is the index put?
func (u *Update) Done() bool {
	return u.put
}

// Step: one call of the bucket; a scan that is older than patience begins anew.
func (u *Update) Step(b *bucket.Bucket, now, patience int) api.Errno {
	switch {
	case u.Done():
		return api.ErrIdle
	case u.stale(now, patience):
		u.Scan = New()
		return api.ErrStale
	case !u.Scan.Done():
		return u.Scan.Step(b, now)
	}
	return u.putIndex(b, now)
}

// stale: did its scan begin too long ago?
func (u *Update) stale(now, patience int) bool {
	return u.begun && now-u.At() > patience
}

// putIndex: what was found is the bucket's index.
func (u *Update) putIndex(b *bucket.Bucket, now int) api.Errno {
	// Where the Put fails the index may be put already, or not: it is put again, so that Done says what is so.
	err := b.Put(listing.Name, listing.Encode(u.Listing()), now)
	u.put = err == api.OK
	return err
}

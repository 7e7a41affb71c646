package scan

import (
	"math"
	"testing"

	"barograph/api"
	"barograph/bucket"
	"barograph/ident"
	"barograph/listing"
	"barograph/meta"
)

// indexed: is this the bucket's index, put at a tick?
func indexed(t *testing.T, what string, b *bucket.Bucket, want listing.Listing, at int) {
	t.Helper()
	data, _ := b.Peek(listing.Name)
	if l, err := listing.Decode(data); err != api.OK || !same(l, want) || data != listing.Encode(want) {
		t.Errorf("%s: the index: %+v, %d, not %+v", what, l, err, want)
	}
	for _, o := range b.Look(listing.Name) {
		if o.At != at {
			t.Errorf("%s: the index was put at %d, not at %d", what, o.At, at)
		}
	}
}

// unindexed: has the bucket the index with which it was filled?
func unindexed(t *testing.T, what string, b *bucket.Bucket) {
	t.Helper()
	if data, _ := b.Peek(listing.Name); data != meta.Encode(said(1)) {
		t.Errorf("%s: the index: %q", what, data)
	}
}

// scanned: an update of a bucket, of so many Steps at a tick.
func scanned(t *testing.T, b *bucket.Bucket, n, at int) *Update {
	t.Helper()
	u := NewUpdate()
	for range n {
		ends(t, "a Step", u.Step(b, at, 0), api.OK)
	}
	return u
}

// P19.1: the chapter's example.
func TestExample(t *testing.T) {
	b := bucket.New()
	b.Put(of(1, ident.Chunks), "c", 1)
	b.Put(of(1, ident.Index), "i", 1)
	b.Put(of(1, ident.Meta), meta.Encode(said(1)), 1)
	u := NewUpdate()
	for _, what := range []string{"a List", "a Get", "a Put"} {
		if _, there := b.Peek(listing.Name); there || u.Done() {
			t.Errorf("ahead of %s: done %v, an index: %v", what, u.Done(), there)
		}
		calls(t, what, b, 1, api.OK, func() api.Errno { return u.Step(b, 5, 9) })
	}
	indexed(t, "the example", b, listing.New(5, []meta.Meta{said(1)}, nil), 5)
	if !u.Done() {
		t.Error("not done")
	}
}

// P19.1, P19.3: the scan's Steps, then the Put, of the tick at which the scan began, at the Put's tick; its scan's methods are its own.
func TestUpdate(t *testing.T) {
	b := filled()
	infos := b.Look("")
	u := NewUpdate()
	got := map[string]string{}
	is(t, "NewUpdate", u, false, -1, nil, nil)
	calls(t, "List", b, 1, api.OK, func() api.Errno { return u.Step(b, 7, 6) })
	is(t, "List", u, false, 7, infos, got)
	for i, name := range asked() {
		calls(t, "Get", b, 1, api.OK, func() api.Errno { return u.Step(b, 8+i, 6) })
		got[name], _ = b.Peek(name)
		is(t, "Get", u, false, 7, infos, got)
	}
	is(t, "its scan", u.Scan, true, 7, infos, got)
	finds(t, "its scan", u, ofFilled(7))
	unindexed(t, "ahead of the Put", b)
	calls(t, "Put", b, 1, api.OK, func() api.Errno { return u.Step(b, 13, 6) })
	indexed(t, "Put", b, ofFilled(7), 13)
	is(t, "Put", u, true, 7, infos, got)
	finds(t, "Put", u, ofFilled(7))
}

// P19.1, K2: once the index is put there is nothing to do, however long ago its scan began.
func TestUpdateIdle(t *testing.T) {
	b := filled()
	u := scanned(t, b, 6, 7)
	b.Delete(listing.Name)
	for _, now := range []int{7, 8, 99, math.MaxInt, 0} {
		for _, patience := range []int{0, 5, -1, math.MinInt, math.MaxInt} {
			calls(t, "done", b, 0, api.ErrIdle, func() api.Errno { return u.Step(b, now, patience) })
		}
	}
	if _, there := b.Peek(listing.Name); there || !u.Done() || u.At() != 7 {
		t.Errorf("done %v, at %d, an index: %v", u.Done(), u.At(), there)
	}
}

// P19.1, P19.3: of a bucket without blocks the index says that there are none.
func TestUpdateOfNone(t *testing.T) {
	b := bucket.New()
	u := scanned(t, b, 2, 0)
	indexed(t, "of none", b, listing.New(0, nil, nil), 0)
	is(t, "of none", u, true, 0, nil, nil)
}

// P19.1, P19.3: more than patience ticks behind its beginning a scan is too old, whatever is still to be done; the bucket isn't called then, and a new scan hasn't begun.
func TestUpdateStale(t *testing.T) {
	for n := 1; n <= 5; n++ {
		for _, c := range []struct{ now, patience int }{
			{11, 3}, {12, 3}, {99, 3}, {math.MaxInt, 3}, {8, 0}, {9, 1}, {9, 0}, {7, -1}, {7, math.MinInt}, {math.MaxInt, math.MaxInt - 8}, {8, -5},
		} {
			b := filled()
			u := scanned(t, b, n, 7)
			elder := u.Scan
			was := elder.Got()
			calls(t, "too old", b, 0, api.ErrStale, func() api.Errno { return u.Step(b, c.now, c.patience) })
			is(t, "too old", u, false, -1, nil, nil)
			finds(t, "too old", u, listing.New(-1, nil, nil))
			is(t, "the elder one", elder, n == 5, 7, b.Look(""), was)
			unindexed(t, "too old", b)
			for range 5 {
				ends(t, "anew", u.Step(b, 200, 0), api.OK)
				unindexed(t, "anew", b)
			}
			ends(t, "the Put", u.Step(b, 200, 0), api.OK)
			indexed(t, "anew", b, ofFilled(200), 200)
		}
	}
}

// P19.1, P19.3: just patience ticks behind its beginning it isn't, nor is a clock that has gone back; nor one that hasn't begun, at any tick.
func TestUpdateNotStale(t *testing.T) {
	for _, c := range []struct{ now, patience int }{
		{10, 3}, {9, 3}, {7, 0}, {8, 1}, {math.MaxInt, math.MaxInt - 7}, {math.MaxInt, math.MaxInt}, {0, 3}, {0, 0}, {6, -1}, {0, -7},
	} {
		b := filled()
		u := scanned(t, b, 1, 7)
		for range 5 {
			unindexed(t, "not too old", b)
			ends(t, "not too old", u.Step(b, c.now, c.patience), api.OK)
		}
		indexed(t, "not too old", b, ofFilled(7), c.now)
		u = NewUpdate()
		ends(t, "not begun", u.Step(b, c.now, c.patience), api.OK)
		is(t, "not begun", u, false, c.now, b.Look(""), nil)
	}
	for _, patience := range []int{-1, math.MinInt} {
		u := NewUpdate()
		ends(t, "not begun", u.Step(filled(), 7, patience), api.OK)
	}
}

// P19.1: whichever call of the scan fails, nothing has changed; a List that fails is no beginning, and so never too old.
func TestUpdateScanFails(t *testing.T) {
	b := filled()
	u := NewUpdate()
	for now := range 5 {
		b.Arm(0, now%2 == 0)
		ends(t, "List", u.Step(b, 10*now, 3), api.ErrIO)
		is(t, "List", u, false, -1, nil, nil)
	}
	ends(t, "List", u.Step(b, 100, 3), api.OK)
	infos := b.Look("")
	got := map[string]string{}
	for _, name := range asked() {
		b.Arm(0, true)
		ends(t, "Get", u.Step(b, 101, 3), api.ErrIO)
		is(t, "Get", u, false, 100, infos, got)
		ends(t, "again", u.Step(b, 102, 3), api.OK)
		got[name], _ = b.Peek(name)
		is(t, "again", u, false, 100, infos, got)
	}
	unindexed(t, "ahead of the Put", b)
}

// P19.1, P19.3: a Put that fails, done or not, is done again by the next Step, at its tick; then the update is done.
func TestUpdatePutFails(t *testing.T) {
	for _, done := range []bool{false, true} {
		b := filled()
		u := scanned(t, b, 5, 7)
		for now := 8; now < 12; now++ {
			b.Arm(0, done)
			ends(t, "the Put", u.Step(b, now, 9), api.ErrIO)
			if u.Done() || u.At() != 7 {
				t.Errorf("done %v, at %d", u.Done(), u.At())
			}
			if done {
				indexed(t, "put, but failed", b, ofFilled(7), now)
			} else {
				unindexed(t, "not put", b)
			}
		}
		b.Delete(of(1, ident.Meta))
		calls(t, "again", b, 1, api.OK, func() api.Errno { return u.Step(b, 12, 9) })
		indexed(t, "again", b, ofFilled(7), 12)
		calls(t, "done", b, 0, api.ErrIdle, func() api.Errno { return u.Step(b, 13, 9) })
	}
}

// P19.3: where the Put failed, and its scan became too old meanwhile, a new scan's listing is put.
func TestUpdatePutFailsTooLong(t *testing.T) {
	b := filled()
	u := scanned(t, b, 5, 7)
	b.Arm(0, false)
	ends(t, "the Put", u.Step(b, 10, 3), api.ErrIO)
	b.Delete(of(1, ident.Mark))
	calls(t, "too old", b, 0, api.ErrStale, func() api.Errno { return u.Step(b, 11, 3) })
	is(t, "too old", u, false, -1, nil, nil)
	unindexed(t, "too old", b)
	for range 5 {
		ends(t, "anew", u.Step(b, 12, 3), api.OK)
	}
	indexed(t, "anew", b, listing.New(12, []meta.Meta{said(1), said(2), said(3, id(1), id(2))}, nil), 12)
}

// P19.1: a scan that is stepped on its own is the update's all the same.
func TestUpdateHasItsScan(t *testing.T) {
	b := filled()
	u := NewUpdate()
	for range 5 {
		if u.Scan.Done() || u.Done() {
			t.Error("done")
		}
		ends(t, "its scan", u.Scan.Step(b, 7), api.OK)
	}
	if u.Done() || !u.Scan.Done() {
		t.Errorf("%v, %v", u.Done(), u.Scan.Done())
	}
	ends(t, "its scan", u.Scan.Step(b, 7), api.ErrIdle)
	unindexed(t, "its scan", b)
	calls(t, "the Put", b, 1, api.OK, func() api.Errno { return u.Step(b, 8, 1) })
	indexed(t, "the Put", b, ofFilled(7), 8)
}

// P19.1: of an object that isn't there any more nothing is in the index.
func TestUpdatePassesOver(t *testing.T) {
	b := filled()
	u := scanned(t, b, 1, 7)
	b.Delete(of(2, ident.Meta))
	b.Delete(of(1, ident.Mark))
	for range 5 {
		calls(t, "a Step", b, 1, api.OK, func() api.Errno { return u.Step(b, 7, 0) })
	}
	indexed(t, "passed over", b, listing.New(7, []meta.Meta{said(1), said(3, id(1), id(2))}, nil), 7)
}

// K3: two updates have nothing to do with each other.
func TestTwoUpdates(t *testing.T) {
	b := filled()
	x, y := NewUpdate(), NewUpdate()
	ends(t, "the first", x.Step(b, 7, 3), api.OK)
	is(t, "the second", y, false, -1, nil, nil)
	for range 6 {
		ends(t, "the second", y.Step(b, 9, 3), api.OK)
	}
	indexed(t, "the second", b, ofFilled(9), 9)
	ends(t, "the first", x.Step(b, 11, 3), api.ErrStale)
	if !y.Done() || y.At() != 9 {
		t.Errorf("%v, %d", y.Done(), y.At())
	}
}

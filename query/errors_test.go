package query

import (
	"math"
	"testing"

	"barograph/api"
	"barograph/bucket"
	"barograph/frame"
	"barograph/ident"
	"barograph/leb"
	"barograph/listing"
	"barograph/meta"
	"barograph/ship"
)

// P23.1: a call that fails changes nothing: the index is asked again, and so is each part of a block.
func TestFaults(t *testing.T) {
	b := two(t)
	for fault := range 6 {
		q := New(all(), 5, nil)
		at := -1
		for i := range 6 {
			if i == fault {
				for _, done := range []bool{false, true, false} {
					b.Arm(0, done)
					steps(t, "a fault", q, b, 8, api.ErrIO)
					busy(t, "behind a fault", q, at)
				}
			}
			steps(t, "no fault", q, b, 8, api.OK)
			at = 7
		}
		has(t, "all", q, 7, ofBoth()...)
	}
}

// P23.1: that a call fails comes first, whatever the index is.
func TestFaultFirst(t *testing.T) {
	for _, said := range []string{"", "x", listing.Encode(listing.New(0, nil, nil))} {
		b := bucket.New()
		b.Put(listing.Name, said, 0)
		b.Arm(0, true)
		q := New(all(), 5, nil)
		steps(t, "a fault", q, b, 99, api.ErrIO)
		busy(t, "a fault", q, -1)
	}
}

// P23.1: bytes that are no index: listing.Decode's error ends it, also where its tick would be too long ago.
func TestNoIndex(t *testing.T) {
	good := listing.Encode(listing.New(7, []meta.Meta{first(t).Meta}, nil))
	record := func(kind byte, data []byte) string {
		return string(frame.Append(nil, frame.Rec{Kind: kind, Data: string(data)}))
	}
	for _, c := range []struct {
		what, said string
		want       api.Errno
	}{
		{"no bytes", "", api.ErrEnd},
		{"a byte less", good[:len(good)-1], api.ErrEnd},
		{"another sum", good[:len(good)-1] + "\x01", api.ErrSum},
		{"a byte more", good + "x", api.ErrForm},
		{"another kind", record(4, leb.Uint(leb.Uint(nil, 7), 0)), api.ErrForm},
		{"a tick above all", record(3, leb.Uint(leb.Uint(nil, 1<<41), 0)), api.ErrBig},
		{"a block less", record(3, leb.Uint(leb.Uint(nil, 7), 1)), api.ErrEnd},
		{"a block's meta", meta.Encode(first(t).Meta), api.ErrForm},
	} {
		b := two(t)
		b.Put(listing.Name, c.said, 7)
		for _, now := range []int{7, 99} {
			q := New(all(), 5, []ship.Sent{{Meta: second(t).Meta, At: 9}}, ofFirst())
			steps(t, c.what, q, b, now, c.want)
			failed(t, c.what, q, -1, c.want)
		}
	}
}

// P23.1: an index whose tick is more than delay ago ends it, when it is got; P23.3.
func TestOldIndex(t *testing.T) {
	for _, c := range []struct {
		at, delay, now int
		want           api.Errno
	}{
		{7, 5, 12, api.OK},
		{7, 5, 13, api.ErrStale},
		{7, 5, 7, api.OK},
		{7, 0, 7, api.OK},
		{7, 0, 8, api.ErrStale},
		{7, 5, 0, api.OK},
		{0, 5, 5, api.OK},
		{0, 5, 6, api.ErrStale},
		{1 << 40, 1, 1<<40 + 1, api.OK},
		{1 << 40, 1, 1<<40 + 2, api.ErrStale},
		{7, math.MaxInt, math.MaxInt, api.OK},
		{7, -1, 7, api.ErrStale},
		{7, -1, 6, api.OK},
		{7, math.MinInt, 0, api.ErrStale},
	} {
		b := bucket.New()
		know(b, c.at)
		q := New(all(), c.delay, nil, ofFirst())
		calls(t, "the index", b, 1, c.want, func() api.Errno { return q.Step(b, c.now) })
		if c.want == api.OK {
			has(t, "in time", q, c.at, ofFirst()...)
		} else {
			failed(t, "too old", q, c.at, c.want)
		}
	}
	b := bucket.New()
	q := New(all(), 5, nil, ofFirst())
	steps(t, "no index, and too late", q, b, 6, api.ErrStale)
	failed(t, "no index, and too late", q, 0, api.ErrStale)
}

// P23.1, P23.3: an index that has become too old ends it, ahead of the next call, whatever that would be answered.
func TestBecomesOld(t *testing.T) {
	for read := 1; read < 6; read++ {
		b := two(t)
		q := New(all(), 5, nil, ofFirst())
		for range read {
			steps(t, "in time", q, b, 12, api.OK)
		}
		calls(t, "too late", b, 0, api.ErrStale, func() api.Errno { return q.Step(b, 13) })
		failed(t, "too late", q, 7, api.ErrStale)
		// The clock going back doesn't help it.
		steps(t, "back", q, b, 8, api.ErrIdle)
	}
	b := two(t)
	q := New(all(), 5, nil)
	steps(t, "the index", q, b, 12, api.OK)
	b.Arm(0, true)
	steps(t, "too late, and a fault", q, b, 13, api.ErrStale)
	failed(t, "too late, and a fault", q, 7, api.ErrStale)
	// Ahead of the index no tick is too late.
	b = two(t)
	q = New(all(), 5, nil)
	b.Arm(0, false)
	steps(t, "a fault", q, b, 99, api.ErrIO)
	busy(t, "a fault", q, -1)
	steps(t, "the index", q, b, 12, api.OK)
	busy(t, "the index", q, 7)
}

// P23.1: when all is read, it has ended, and is never too old any more.
func TestNeverOld(t *testing.T) {
	b := two(t)
	q := New(all(), 5, nil)
	ended(t, q, b, 12)
	b.Delete(listing.Name)
	b.Delete(of(1, ident.Index))
	steps(t, "long behind", q, b, 1<<40, api.ErrIdle)
	has(t, "long behind", q, 7, ofBoth()...)
}

// P23.1: another error of a block's fetch than ErrIO ends it, at whatever part.
func TestBlockErrors(t *testing.T) {
	file := first(t)
	for _, c := range []struct {
		what string
		part string
		said string
		want api.Errno
		at   int // behind so many Steps
	}{
		{"no index", ident.Index, "", api.ErrStale, 1},
		{"another index", ident.Index, "x", api.ErrSum, 1},
		{"an index that is cut", ident.Index, file.Index[:len(file.Index)-1], api.ErrSum, 1},
		{"no chunks", ident.Chunks, "", api.ErrStale, 2},
		{"another byte of the chunks", ident.Chunks, file.Chunks[:9] + "\xff" + file.Chunks[10:], api.ErrSum, 2},
		{"chunks of the first row alone", ident.Chunks, file.Chunks[:len(file.Chunks)-1], api.ErrSum, 3},
	} {
		b := two(t)
		b.Delete(of(1, c.part))
		if c.said != "" {
			b.Put(of(1, c.part), c.said, 0)
		}
		q := New(all(), 5, nil, ofSecond())
		for range c.at {
			steps(t, c.what, q, b, 8, api.OK)
		}
		busy(t, c.what, q, 7)
		b.Arm(0, false)
		steps(t, c.what+", and a fault", q, b, 8, api.ErrIO)
		busy(t, c.what+", and a fault", q, 7)
		steps(t, c.what, q, b, 8, c.want)
		failed(t, c.what, q, 7, c.want)
	}
}

// P23.1: a second block's error ends it, too; one of a block that isn't asked for plays no part.
func TestSecondBlock(t *testing.T) {
	b := two(t)
	b.Delete(of(2, ident.Chunks))
	q := New(all(), 5, nil)
	steps(t, "the second block", q, b, 8, api.OK, api.OK, api.OK, api.OK, api.OK, api.ErrStale)
	failed(t, "the second block", q, 7, api.ErrStale)
	b.Delete(of(2, ident.Index))
	q = New(asks(0, 10, ""), 5, nil)
	steps(t, "the first block alone", q, b, 8, api.OK, api.OK, api.OK, api.OK)
	has(t, "the first block alone", q, 7, ofFirst()...)
}

// P23.1: a block's meta in the bucket isn't asked: the index has what it says.
func TestWithoutMeta(t *testing.T) {
	b := two(t)
	b.Delete(of(1, ident.Meta))
	b.Put(of(2, ident.Meta), "x", 0)
	q := New(all(), 5, nil)
	ended(t, q, b, 8)
	has(t, "without a meta", q, 7, ofBoth()...)
}

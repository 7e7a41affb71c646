package scan

import (
	"testing"

	"barograph/api"
	"barograph/bucket"
	"barograph/ident"
	"barograph/listing"
	"barograph/meta"
)

// rolls: numbers that follow from where they begin, and from nothing else.
type rolls uint64

func (r *rolls) below(n int) int {
	*r = *r*6364136223846793005 + 1442695040888963407
	return int(uint64(*r)>>33) % n
}

// most: how many blocks there may be.
const most = 12

// change: some object of a block, or another one, is put at a tick, or deleted; not all say something.
func (r *rolls) change(b *bucket.Bucket, now int) {
	n := 1 + r.below(most)
	part := []string{ident.Chunks, ident.Index, ident.Meta, ident.Meta, ident.Mark}[r.below(5)]
	if r.below(3) == 0 {
		b.Delete(of(n, part))
		return
	}
	data := "x"
	switch part {
	case ident.Meta:
		data = meta.Encode(said(n, id(most+1+r.below(3))))
	case ident.Mark:
		data = meta.EncodeMark(id(n), r.below(5))
	}
	switch r.below(12) {
	case 0:
		data = data[1:]
	case 1:
		data = meta.Encode(said(n + 1))
	case 2:
		data = meta.EncodeMark(id(n+1), 3)
	case 3:
		b.Put("meta", data, now)
	}
	b.Put(of(n, part), data, now)
}

// objects: the bytes of the metas and marks of all blocks; none, where there is no such object.
type objects struct {
	metas, marks [most + 1]string
}

// shot: those that a bucket has.
func shot(b *bucket.Bucket) objects {
	var o objects
	for n := 1; n <= most; n++ {
		o.metas[n], _ = b.Peek(of(n, ident.Meta))
		o.marks[n], _ = b.Peek(of(n, ident.Mark))
	}
	return o
}

// plainly: what a meta and a mark say of the n-th block, as a listing of no other one.
func plainly(n int, data, mark string) listing.Listing {
	m, err := meta.Decode(data)
	if err != api.OK || m.ID != id(n) {
		return listing.Listing{}
	}
	l := listing.Listing{Metas: []meta.Meta{m}}
	if name, tick, err := meta.DecodeMark(mark); err == api.OK && name == id(n) {
		l.Marks = map[string]int{name: tick}
	}
	return l
}

// partOf: what a listing says of the n-th block, as a listing of no other one.
func partOf(l listing.Listing, n int) listing.Listing {
	var p listing.Listing
	if m, there := l.Find(id(n)); there {
		p.Metas = []meta.Meta{m}
	}
	if tick, marked := l.Marks[id(n)]; marked {
		p.Marks = map[string]int{id(n): tick}
	}
	return p
}

// toGet: how many metas and marks of blocks a bucket has.
func toGet(b *bucket.Bucket) int {
	n := 0
	for _, o := range b.Look("") {
		if _, part, _ := ident.Split(o.Name); part == ident.Meta || part == ident.Mark {
			n++
		}
	}
	return n
}

// scanThrough: a scan is stepped to its end, while calls fail; how many Steps ended with OK, and at which tick the first one of these.
func (r *rolls) scanThrough(t *testing.T, s *Scan, b *bucket.Bucket) (int, int) {
	t.Helper()
	now, at, good := 0, -1, 0
	for !s.Done() && good < 100 {
		now += r.below(3)
		want := api.OK
		if r.below(3) == 0 {
			b.Arm(0, r.below(2) == 0)
			want = api.ErrIO
		}
		ends(t, "a Step", s.Step(b, now), want)
		if want == api.OK {
			good++
			if good == 1 {
				at = now
			}
		}
		if s.At() != at {
			t.Errorf("At: %d, not %d", s.At(), at)
		}
	}
	return good, at
}

// P19.2: of a bucket that doesn't change the listing is what is in it, whatever calls fail between.
func TestWhateverFails(t *testing.T) {
	for seed := range 400 {
		r := rolls(seed)
		b := bucket.New()
		for range r.below(60) {
			r.change(b, 1)
		}
		s := New()
		good, at := r.scanThrough(t, s, b)
		if good != 1+toGet(b) {
			t.Errorf("%d Steps, not %d", good, 1+toGet(b))
		}
		l, o := s.Listing(), shot(b)
		for n := 1; n <= most; n++ {
			if want := plainly(n, o.metas[n], o.marks[n]); !same(partOf(l, n), want) {
				t.Errorf("block %d: %+v, not %+v", n, partOf(l, n), want)
			}
		}
		if l.At != at || l.Check() != api.OK {
			t.Errorf("Listing: %+v", l)
		}
		if t.Failed() {
			t.Fatalf("seed %d", seed)
		}
	}
}

// known: is what a listing says of the n-th block what a meta and a mark said that a bucket had at some times?
func known(l listing.Listing, times []objects, n int) bool {
	for _, x := range times {
		for _, y := range times {
			if same(partOf(l, n), plainly(n, x.metas[n], y.marks[n])) {
				return true
			}
		}
	}
	return false
}

// P19.3: whatever changes and fails between, what is put is the listing of a scan that began at its tick, at most patience ago: of each block what the bucket had of it meanwhile.
func TestWhateverChanges(t *testing.T) {
	puts, stale := 0, 0
	for seed := range 300 {
		r := rolls(seed)
		b := bucket.New()
		for range r.below(60) {
			r.change(b, 1)
		}
		u := NewUpdate()
		now, at, patience := 0, -1, 5+r.below(40)
		var times []objects // what the bucket had since the scan began
		for range 300 {
			now += r.below(3)
			for range r.below(2) {
				r.change(b, now)
			}
			if r.below(8) == 0 {
				b.Arm(0, r.below(2) == 0)
			}
			times = append(times, shot(b))
			tooOld := at >= 0 && now-at > patience
			err := u.Step(b, now, patience)
			b.Clear()
			if tooOld != (err == api.ErrStale) {
				t.Errorf("of %d at %d: %d", at, now, err)
			}
			switch {
			case tooOld:
				stale++
				at = -1
			case at < 0 && err == api.OK:
				at, times = now, times[len(times)-1:]
			}
			if u.At() != at {
				t.Errorf("At: %d, not %d", u.At(), at)
			}
			if u.Done() {
				puts++
				checkPut(t, b, at, now, times)
				u, at, times = NewUpdate(), -1, nil
			}
			if t.Failed() {
				t.Fatalf("seed %d", seed)
			}
		}
	}
	if puts < 500 || stale < 500 {
		t.Errorf("%d puts, %d too old", puts, stale)
	}
}

// checkPut: is the index, put now, that of a scan which began at a tick, since when the bucket had these?
func checkPut(t *testing.T, b *bucket.Bucket, at, now int, times []objects) {
	t.Helper()
	data, _ := b.Peek(listing.Name)
	l, err := listing.Decode(data)
	if err != api.OK || l.At != at || b.Look(listing.Name)[0].At != now {
		t.Errorf("the index: %+v, %d; of %d, put at %d", l, err, at, now)
	}
	for n := 1; n <= most; n++ {
		if !known(l, times, n) {
			t.Errorf("block %d: the bucket never had %+v", n, partOf(l, n))
		}
	}
}

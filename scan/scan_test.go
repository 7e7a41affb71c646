package scan

import (
	"maps"
	"math"
	"slices"
	"testing"

	"barograph/api"
	"barograph/bucket"
	"barograph/ident"
	"barograph/listing"
	"barograph/meta"
)

// id: the n-th block's name.
func id(n int) string {
	s, _ := ident.Make(33, n)
	return s
}

// of: the name of the n-th block's object.
func of(n int, part string) string {
	return ident.Object(id(n), part)
}

// said: the n-th block's meta, of these sources.
func said(n int, sources ...string) meta.Meta {
	return meta.Meta{
		ID: id(n), Min: int64(n), Max: int64(n) + 10, Level: 1, Series: 1, Samples: 2,
		Files:   []meta.File{meta.Of(ident.Chunks, "c"), meta.Of(ident.Index, "i")},
		Sources: sources,
	}
}

// filled: a bucket of three blocks, of which the third is made of the others, and the first is marked at 4; and of objects that only look like theirs.
func filled() *bucket.Bucket {
	b := bucket.New()
	for n, sources := range [][]string{nil, nil, {id(1), id(2)}} {
		b.Put(of(n+1, ident.Chunks), "c", 1)
		b.Put(of(n+1, ident.Index), "i", 2)
		b.Put(of(n+1, ident.Meta), meta.Encode(said(n+1, sources...)), 3)
	}
	b.Put(of(1, ident.Mark), meta.EncodeMark(id(1), 4), 5)
	for _, name := range []string{listing.Name, "meta", "mark", "/meta", "x/mark", id(1), of(1, ""), of(1, "metas"), of(1, "mar"), of(1, "meta/x"), of(1, "/meta"), "i" + of(1, ident.Meta)[1:], "0" + of(1, ident.Mark)} {
		b.Put(name, meta.Encode(said(1)), 6)
	}
	return b
}

// ofFilled: what is in that bucket, as of a tick.
func ofFilled(at int) listing.Listing {
	return listing.New(at, []meta.Meta{said(1), said(2), said(3, id(1), id(2))}, map[string]int{id(1): 4})
}

// asked: the objects that are to be got of it, in their order.
func asked() []string {
	return []string{of(1, ident.Mark), of(1, ident.Meta), of(2, ident.Meta), of(3, ident.Meta)}
}

// sameMeta: are two metas the same, nil and empty lists alike?
func sameMeta(a, b meta.Meta) bool {
	return a.ID == b.ID && a.Min == b.Min && a.Max == b.Max && a.Level == b.Level && a.Series == b.Series && a.Samples == b.Samples &&
		slices.Equal(a.Files, b.Files) && slices.Equal(a.Sources, b.Sources)
}

// same: are two listings the same, nothing and empty alike?
func same(a, b listing.Listing) bool {
	return a.At == b.At && slices.EqualFunc(a.Metas, b.Metas, sameMeta) && maps.Equal(a.Marks, b.Marks)
}

// looker: a scan, or an update.
type looker interface {
	Done() bool
	At() int
	Got() map[string]string
	Infos() []bucket.Info
	Listing() listing.Listing
}

// is: has one that looks begun at a tick (-1: it hasn't), with these objects, and has it got these?
func is(t *testing.T, what string, s looker, done bool, at int, infos []bucket.Info, got map[string]string) {
	t.Helper()
	if s.Done() != done || s.At() != at {
		t.Errorf("%s: done %v, at %d, not %v, %d", what, s.Done(), s.At(), done, at)
	}
	if l := s.Infos(); !slices.Equal(l, infos) {
		t.Errorf("%s: Infos: %v, not %v", what, l, infos)
	}
	if l := s.Got(); !maps.Equal(l, got) {
		t.Errorf("%s: Got: %q, not %q", what, l, got)
	}
}

// finds: is this its listing?
func finds(t *testing.T, what string, s looker, want listing.Listing) {
	t.Helper()
	if l := s.Listing(); !same(l, want) {
		t.Errorf("%s: Listing: %+v, not %+v", what, l, want)
	}
}

// ends: did a call end so?
func ends(t *testing.T, what string, got, wanted api.Errno) {
	t.Helper()
	if got != wanted {
		t.Errorf("%s: %d, not %d", what, got, wanted)
	}
}

// calls: does something end so, with so many calls of the bucket?
func calls(t *testing.T, what string, b *bucket.Bucket, n int, wanted api.Errno, act func() api.Errno) {
	t.Helper()
	const room = 5
	b.Arm(room, false)
	ends(t, what, act(), wanted)
	tries := 0
	for works := true; works && tries <= room; tries++ {
		works, _ = b.Try()
	}
	// Try works as often as there is room left, and fails once.
	if made := room + 1 - tries; made != n {
		t.Errorf("%s: %d calls, not %d", what, made, n)
	}
	b.Clear()
}

// all: a scan of a bucket that began at a tick, and is done.
func all(t *testing.T, b *bucket.Bucket, at int) *Scan {
	t.Helper()
	s := New()
	for i := 0; !s.Done(); i++ {
		if i > 1000 {
			t.Fatal("it doesn't end")
		}
		ends(t, "a Step", s.Step(b, at), api.OK)
	}
	return s
}

// P19.1: a new scan hasn't begun, and found nothing.
func TestNew(t *testing.T) {
	s := New()
	is(t, "New", s, false, -1, nil, nil)
	finds(t, "New", s, listing.New(-1, nil, nil))
}

// P19.1: a List at a tick, then one by one the metas and marks of blocks, by rising names: one call of the bucket each, and none when it is done.
func TestSteps(t *testing.T) {
	b := filled()
	infos := b.Look("")
	s := New()
	got := map[string]string{}
	calls(t, "List", b, 1, api.OK, func() api.Errno { return s.Step(b, 7) })
	is(t, "List", s, false, 7, infos, got)
	finds(t, "List", s, listing.New(7, nil, nil))
	for i, name := range asked() {
		calls(t, "Get", b, 1, api.OK, func() api.Errno { return s.Step(b, 8+i) })
		got[name], _ = b.Peek(name)
		is(t, "Get "+name, s, i == len(asked())-1, 7, infos, got)
	}
	finds(t, "done", s, ofFilled(7))
	for range 2 {
		calls(t, "done", b, 0, api.ErrIdle, func() api.Errno { return s.Step(b, 99) })
	}
	is(t, "idle", s, true, 7, infos, got)
	finds(t, "idle", s, ofFilled(7))
	if l := b.Look(""); !slices.Equal(l, infos) {
		t.Errorf("the bucket: %v, not %v", l, infos)
	}
}

// P19.1: what was found so far: a block whose meta was got, with its mark.
func TestListingSoFar(t *testing.T) {
	b := filled()
	s := New()
	marks := map[string]int{id(1): 4}
	for i, want := range []listing.Listing{
		listing.New(-1, nil, nil),
		listing.New(7, nil, nil),
		listing.New(7, nil, nil),
		listing.New(7, []meta.Meta{said(1)}, marks),
		listing.New(7, []meta.Meta{said(1), said(2)}, marks),
		ofFilled(7),
	} {
		finds(t, "so far", s, want)
		if i < 5 {
			ends(t, "a Step", s.Step(b, 7+i), api.OK)
		}
	}
}

// P19.1: of a bucket in which there is no meta or mark the List is all.
func TestNothingToGet(t *testing.T) {
	for _, names := range [][]string{nil, {"a"}, {listing.Name, of(1, ident.Chunks), of(1, ident.Index), "meta", "x/meta"}} {
		b := bucket.New()
		for _, name := range names {
			b.Put(name, "x", 3)
		}
		s := New()
		calls(t, "List", b, 1, api.OK, func() api.Errno { return s.Step(b, 5) })
		is(t, "List", s, true, 5, b.Look(""), nil)
		finds(t, "List", s, listing.New(5, nil, nil))
		calls(t, "done", b, 0, api.ErrIdle, func() api.Errno { return s.Step(b, 5) })
	}
}

// P19.1: it begins at the tick of its List, whatever those behind it are.
func TestAt(t *testing.T) {
	for _, at := range []int{0, 1, 1 << 40, math.MaxInt} {
		b := filled()
		s := New()
		for _, now := range []int{at, 0, at, 5, math.MaxInt} {
			ends(t, "a Step", s.Step(b, now), api.OK)
			if s.At() != at {
				t.Errorf("At: %d, not %d", s.At(), at)
			}
		}
		finds(t, "done", s, ofFilled(at))
	}
}

// P19.1: whichever call fails, done or not, nothing has changed; a List that fails is no beginning.
func TestFails(t *testing.T) {
	b := filled()
	infos := b.Look("")
	s := New()
	got := map[string]string{}
	now, at := 10, -1
	var listed []bucket.Info
	for _, name := range append([]string{""}, asked()...) {
		for _, done := range []bool{false, true, false} {
			now++
			b.Arm(0, done)
			ends(t, "fails", s.Step(b, now), api.ErrIO)
			is(t, "fails", s, false, at, listed, got)
		}
		now++
		ends(t, "again", s.Step(b, now), api.OK)
		if name == "" {
			at, listed = now, infos
		} else {
			got[name], _ = b.Peek(name)
		}
		is(t, "again", s, name == of(3, ident.Meta), at, listed, got)
	}
	finds(t, "done", s, ofFilled(14))
}

// P19.1: what isn't there any more is passed over, with one call.
func TestPassedOver(t *testing.T) {
	for _, c := range []struct {
		what string
		gone []string
		want listing.Listing
	}{
		{"a mark", []string{of(1, ident.Mark)}, listing.New(7, []meta.Meta{said(1), said(2), said(3, id(1), id(2))}, nil)},
		{"a meta", []string{of(1, ident.Meta)}, listing.New(7, []meta.Meta{said(2), said(3, id(1), id(2))}, nil)},
		{"the last one", []string{of(3, ident.Meta)}, listing.New(7, []meta.Meta{said(1), said(2)}, map[string]int{id(1): 4})},
		{"what isn't got", []string{of(1, ident.Chunks), listing.Name}, ofFilled(7)},
		{"all", asked(), listing.New(7, nil, nil)},
	} {
		b := filled()
		infos := b.Look("")
		s := New()
		ends(t, "List", s.Step(b, 7), api.OK)
		for _, name := range c.gone {
			b.Delete(name)
		}
		got := map[string]string{}
		for i, name := range asked() {
			calls(t, c.what, b, 1, api.OK, func() api.Errno { return s.Step(b, 8) })
			if data, there := b.Peek(name); there {
				got[name] = data
			}
			is(t, c.what, s, i == 3, 7, infos, got)
		}
		finds(t, c.what, s, c.want)
		calls(t, c.what, b, 0, api.ErrIdle, func() api.Errno { return s.Step(b, 8) })
	}
}

// P19.1: what isn't there any more, and a call that fails: it isn't passed over yet.
func TestGoneAndFails(t *testing.T) {
	b := filled()
	s := New()
	ends(t, "List", s.Step(b, 7), api.OK)
	mark, _ := b.Peek(of(1, ident.Mark))
	b.Delete(of(1, ident.Mark))
	b.Arm(0, true)
	ends(t, "fails", s.Step(b, 7), api.ErrIO)
	b.Put(of(1, ident.Mark), mark, 8)
	ends(t, "again", s.Step(b, 7), api.OK)
	if got := s.Got(); !maps.Equal(got, map[string]string{of(1, ident.Mark): mark}) {
		t.Errorf("Got: %q", got)
	}
}

// P19.1: of what has changed since the List it has what it got; of what has come since, nothing.
func TestChangedBetween(t *testing.T) {
	b := filled()
	infos := b.Look("")
	s := New()
	ends(t, "List", s.Step(b, 7), api.OK)
	b.Put(of(1, ident.Mark), meta.EncodeMark(id(1), 9), 9)
	b.Put(of(2, ident.Mark), meta.EncodeMark(id(2), 9), 9)
	b.Put(of(4, ident.Meta), meta.Encode(said(4)), 9)
	ends(t, "the mark", s.Step(b, 9), api.OK)
	ends(t, "the first meta", s.Step(b, 9), api.OK)
	b.Put(of(1, ident.Meta), "x", 10)
	b.Put(of(2, ident.Meta), meta.Encode(said(2, id(1))), 10)
	ends(t, "the second meta", s.Step(b, 10), api.OK)
	ends(t, "the third meta", s.Step(b, 10), api.OK)
	ends(t, "done", s.Step(b, 10), api.ErrIdle)
	is(t, "done", s, true, 7, infos, map[string]string{
		of(1, ident.Mark): meta.EncodeMark(id(1), 9),
		of(1, ident.Meta): meta.Encode(said(1)),
		of(2, ident.Meta): meta.Encode(said(2, id(1))),
		of(3, ident.Meta): meta.Encode(said(3, id(1), id(2))),
	})
	finds(t, "done", s, listing.New(7, []meta.Meta{said(1), said(2, id(1)), said(3, id(1), id(2))}, map[string]int{id(1): 9}))
}

// P19.1: objects whose bytes say nothing are got, but aren't found: of another block's, or no bytes at all.
func TestWrongBytes(t *testing.T) {
	b := bucket.New()
	for name, data := range map[string]string{
		of(1, ident.Meta): "",
		of(2, ident.Meta): meta.Encode(said(1)),
		of(3, ident.Meta): meta.Encode(said(3)) + "x",
		of(4, ident.Meta): meta.Encode(said(4)),
		of(4, ident.Mark): "",
		of(5, ident.Meta): meta.Encode(said(5)),
		of(5, ident.Mark): meta.EncodeMark(id(4), 6),
		of(6, ident.Mark): meta.EncodeMark(id(6), 6),
		of(7, ident.Meta): meta.EncodeMark(id(7), 6),
		of(7, ident.Mark): meta.Encode(said(7)),
		of(8, ident.Meta): meta.Encode(said(8)),
		of(8, ident.Mark): meta.EncodeMark(id(8), 0),
	} {
		b.Put(name, data, 1)
	}
	s := all(t, b, 9)
	got := map[string]string{}
	for _, o := range b.Look("") {
		got[o.Name], _ = b.Peek(o.Name)
	}
	is(t, "wrong bytes", s, true, 9, b.Look(""), got)
	finds(t, "wrong bytes", s, listing.New(9, []meta.Meta{said(4), said(5), said(8)}, map[string]int{id(8): 0}))
}

// K3: what is answered is nobody else's, and what was answered stays.
func TestAnswersAreOwn(t *testing.T) {
	b := filled()
	s := New()
	none := s.Got()
	none["x"] = "y"
	is(t, "an answer of none was written to", s, false, -1, nil, nil)
	ends(t, "List", s.Step(b, 7), api.OK)
	early := s.Got()
	for i := range 4 {
		ends(t, "a Step", s.Step(b, 8+i), api.OK)
	}
	if len(early) != 0 {
		t.Errorf("an elder answer: %q", early)
	}
	infos, got := s.Infos(), s.Got()
	l := s.Listing()
	clear(infos)
	_ = append(infos[:0], bucket.Info{Name: "z"})
	got[of(1, ident.Meta)] = "x"
	delete(got, of(2, ident.Meta))
	l.Metas[2].Sources[0] = "x"
	l.Metas[1].Files[0].Size = 99
	l.Metas[0] = meta.Meta{}
	l.Marks[id(3)] = 5
	want := map[string]string{}
	for _, name := range asked() {
		want[name], _ = b.Peek(name)
	}
	is(t, "the answers were written to", s, true, 7, b.Look(""), want)
	finds(t, "the answers were written to", s, ofFilled(7))
	// Nor does what happens to the bucket reach what was found.
	was := b.Look("")
	for _, o := range was {
		b.Delete(o.Name)
	}
	is(t, "an empty bucket", s, true, 7, was, want)
	finds(t, "an empty bucket", s, ofFilled(7))
}

// K3: two scans have nothing to do with each other; each Step calls the bucket that it is handed.
func TestTwo(t *testing.T) {
	b, other := filled(), bucket.New()
	other.Put(of(2, ident.Meta), meta.Encode(said(2, id(9))), 3)
	x, y := New(), New()
	ends(t, "the first", x.Step(b, 7), api.OK)
	is(t, "the second", y, false, -1, nil, nil)
	ends(t, "the second", y.Step(other, 8), api.OK)
	ends(t, "the second", y.Step(other, 8), api.OK)
	for range 4 {
		ends(t, "the first, of the other bucket", x.Step(other, 9), api.OK)
	}
	got := map[string]string{of(2, ident.Meta): meta.Encode(said(2, id(9)))}
	is(t, "the first", x, true, 7, b.Look(""), got)
	is(t, "the second", y, true, 8, other.Look(""), got)
	finds(t, "the second", y, listing.New(8, []meta.Meta{said(2, id(9))}, nil))
}

// K4, K7: also of ticks that needn't be asked for no call panics, and each scan ends.
func TestOddTicks(t *testing.T) {
	for _, at := range []int{-1, -5, math.MinInt} {
		s := all(t, filled(), at)
		if s.At() != at || !same(s.Listing(), all(t, filled(), at).Listing()) {
			t.Errorf("at %d: %d, %+v", at, s.At(), s.Listing())
		}
	}
}

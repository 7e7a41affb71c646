package listing

import (
	"maps"
	"math"
	"slices"
	"strconv"
	"testing"

	"barograph/api"
	"barograph/ident"
	"barograph/meta"
)

// id: the n-th block's name.
func id(n int) string {
	s, _ := ident.Make(33, n)
	return s
}

// block: the n-th block, with these times and sources.
func block(n int, from, to int64, sources ...string) meta.Meta {
	return meta.Meta{
		ID: id(n), Min: from, Max: to, Level: 1 + len(sources)%9, Series: 1, Samples: 2,
		Files:   []meta.File{meta.Of(ident.Chunks, strconv.Itoa(n)), meta.Of(ident.Index, "")},
		Sources: sources,
	}
}

// three: blocks of which the last one is made of the others, one of them marked.
func three() Listing {
	return New(9, []meta.Meta{block(1, 0, 100), block(2, 100, 200), block(3, 0, 200, id(1), id(2))}, map[string]int{id(1): 4})
}

// sameMeta: are two metas the same, nil and empty lists alike?
func sameMeta(a, b meta.Meta) bool {
	return a.ID == b.ID && a.Min == b.Min && a.Max == b.Max && a.Level == b.Level && a.Series == b.Series && a.Samples == b.Samples &&
		slices.Equal(a.Files, b.Files) && slices.Equal(a.Sources, b.Sources)
}

// same: are two listings the same, nothing and empty alike?
func same(a, b Listing) bool {
	return a.At == b.At && slices.EqualFunc(a.Metas, b.Metas, sameMeta) && maps.Equal(a.Marks, b.Marks)
}

// names: those of metas.
func names(l []meta.Meta) []string {
	var out []string
	for _, m := range l {
		out = append(out, m.ID)
	}
	return out
}

// good: listings without an error.
func good() []Listing {
	var many []meta.Meta
	for n := range 5000 {
		many = append(many, block(n, int64(n), int64(n)+1))
	}
	return []Listing{
		{},
		New(0, nil, nil),
		New(1<<40, nil, nil),
		{At: 5, Metas: []meta.Meta{block(1, 0, 1)}},
		New(5, []meta.Meta{block(1, 0, 1)}, map[string]int{id(1): 0}),
		New(5, []meta.Meta{block(1, 0, 1)}, map[string]int{id(1): 1 << 40}),
		New(300, []meta.Meta{block(1, 0, 1), block(2, 0, 1<<40)}, map[string]int{id(2): 301}),
		three(),
		New(7, []meta.Meta{block(3, 0, 9, id(1), id(2)), block(5, 0, 9, id(3), id(4))}, map[string]int{id(3): 1, id(5): 2}),
		New(9, many, map[string]int{id(0): 1, id(4999): 2, id(2500): 3}),
	}
}

// bad: listings with one thing wrong.
func bad() []Listing {
	var many []meta.Meta
	for n := range 5001 {
		many = append(many, block(n, 0, 1))
	}
	level0 := block(2, 0, 1)
	level0.Level = 0
	return []Listing{
		New(-1, nil, nil),
		New(math.MinInt, nil, nil),
		New(1<<40+1, nil, nil),
		New(math.MaxInt, nil, nil),
		New(9, many, nil),
		New(9, []meta.Meta{{}}, nil),
		New(9, []meta.Meta{block(1, 0, 1), level0, block(3, 0, 1)}, nil),
		New(9, []meta.Meta{block(2, 0, 1, id(2))}, nil),
		New(9, []meta.Meta{block(1, 0, 1), block(1, 0, 1)}, nil),
		New(9, []meta.Meta{block(1, 0, 1), block(2, 0, 1), block(2, 5, 6)}, nil),
		{At: 9, Metas: []meta.Meta{block(2, 0, 1), block(1, 0, 1)}},
		{At: 9, Metas: []meta.Meta{block(1, 0, 1), block(3, 0, 1), block(2, 0, 1)}},
		New(9, nil, map[string]int{id(1): 1}),
		New(9, []meta.Meta{block(1, 0, 1)}, map[string]int{"": 1}),
		New(9, []meta.Meta{block(1, 0, 1)}, map[string]int{id(1): 1, "x": 1}),
		New(9, []meta.Meta{block(1, 0, 1), block(3, 0, 1, id(2))}, map[string]int{id(2): 1}),
		New(9, []meta.Meta{block(1, 0, 1)}, map[string]int{id(1): -1}),
		New(9, []meta.Meta{block(1, 0, 1)}, map[string]int{id(1): 1<<40 + 1}),
		New(9, []meta.Meta{block(1, 0, 1)}, map[string]int{id(1): math.MaxInt}),
	}
}

// P10.1: the name that the chapter gives.
func TestWords(t *testing.T) {
	if Name != "index" {
		t.Errorf("%q", Name)
	}
}

// P10.1: whatever the order in which they are handed in, they are by rising names.
func TestNew(t *testing.T) {
	a, b, c, d := block(1, 0, 1), block(2, 5, 6), block(3, 2, 9, id(1)), block(40, 2, 9)
	want := []meta.Meta{a, b, c, d}
	for _, l := range [][]meta.Meta{{a, b, c, d}, {d, c, b, a}, {b, d, a, c}, {c, a, d, b}, {d, a, b, c}} {
		got := New(77, l, map[string]int{a.ID: 3, d.ID: 0})
		if got.At != 77 || !slices.EqualFunc(got.Metas, want, sameMeta) || !maps.Equal(got.Marks, map[string]int{a.ID: 3, d.ID: 0}) {
			t.Errorf("of %q: %+v", names(l), got)
		}
	}
	for _, l := range []Listing{New(5, nil, nil), New(5, []meta.Meta{}, map[string]int{})} {
		if l.At != 5 || len(l.Metas) != 0 || len(l.Marks) != 0 {
			t.Errorf("of none: %+v", l)
		}
	}
}

// P10.1, K1: New takes what isn't as it should be, too, as it is.
func TestNewOfBad(t *testing.T) {
	l := New(-5, []meta.Meta{{ID: "x"}, {ID: "", Level: 7}, {ID: "x", Level: 1}}, map[string]int{"q": -3})
	want := Listing{At: -5, Metas: []meta.Meta{{Level: 7}, {ID: "x"}, {ID: "x", Level: 1}}, Marks: map[string]int{"q": -3}}
	if !same(l, want) {
		t.Errorf("%+v", l)
	}
}

// P10.1: what is as said, and what isn't.
func TestCheck(t *testing.T) {
	for i, l := range good() {
		if err := l.Check(); err != api.OK {
			t.Errorf("good %d: %d", i, err)
		}
	}
	for i, l := range bad() {
		if err := l.Check(); err != api.ErrForm {
			t.Errorf("bad %d: %d", i, err)
		}
	}
}

// P10.1, K2: a block of the listing, or zero and false.
func TestFind(t *testing.T) {
	for i, l := range good() {
		for _, m := range l.Metas {
			if got, there := l.Find(m.ID); !there || !sameMeta(got, m) {
				t.Errorf("good %d: %q: %+v, %v", i, m.ID, got, there)
			}
		}
		for _, name := range []string{"", "x", id(0)[:15], id(1) + "0", id(6000), "zzzzzzzzzzzzzzzz", id(1)[:15] + "2 "} {
			if got, there := l.Find(name); there || !sameMeta(got, meta.Meta{}) {
				t.Errorf("good %d: %q: %+v, %v", i, name, got, there)
			}
		}
	}
	gaps := New(1, []meta.Meta{block(2, 0, 1), block(4, 0, 1, id(3)), block(6, 0, 1)}, nil)
	for n := range 8 {
		if got, there := gaps.Find(id(n)); there != (n == 2 || n == 4 || n == 6) || !there && !sameMeta(got, meta.Meta{}) {
			t.Errorf("%d: %+v, %v", n, got, there)
		}
	}
}

// P10.1: the chapter's example.
func TestExample(t *testing.T) {
	l := three()
	if got := names(l.Live()); !slices.Equal(got, []string{id(3)}) {
		t.Errorf("Live: %q", got)
	}
	if got := l.Shadowed(); !maps.Equal(got, map[string]int{id(1): 1, id(2): 1}) {
		t.Errorf("Shadowed: %v", got)
	}
}

// P10.1: how often each block is a source, also of one that is one itself, or that isn't there; marks play no part.
func TestShadowed(t *testing.T) {
	for i, c := range []struct {
		l    []meta.Meta
		want map[string]int
		live []string
	}{
		{nil, map[string]int{}, nil},
		{[]meta.Meta{block(1, 0, 1), block(2, 0, 1)}, map[string]int{}, []string{id(1), id(2)}},
		{[]meta.Meta{block(1, 0, 1, id(9))}, map[string]int{id(9): 1}, []string{id(1)}},
		{[]meta.Meta{block(1, 0, 1), block(2, 0, 1, id(1)), block(3, 0, 1, id(1)), block(4, 0, 1, id(1), id(3))},
			map[string]int{id(1): 3, id(3): 1}, []string{id(2), id(4)}},
		{[]meta.Meta{block(1, 0, 1), block(2, 0, 1, id(1)), block(3, 0, 1, id(2))}, map[string]int{id(1): 1, id(2): 1}, []string{id(3)}},
		{[]meta.Meta{block(1, 0, 1, id(2)), block(2, 0, 1)}, map[string]int{id(2): 1}, []string{id(1)}},
		{[]meta.Meta{block(1, 0, 1, id(2)), block(2, 0, 1, id(1))}, map[string]int{id(1): 1, id(2): 1}, nil},
	} {
		for _, marks := range []map[string]int{nil, {id(1): 1}, {id(1): 0, id(2): 5}} {
			l := New(9, c.l, marks)
			if got := l.Shadowed(); !maps.Equal(got, c.want) {
				t.Errorf("%d: Shadowed: %v", i, got)
			}
			if got := names(l.Live()); !slices.Equal(got, c.live) {
				t.Errorf("%d: Live: %q", i, got)
			}
		}
	}
}

// P10.1: the live ones that meet times, at the edges of these.
func TestOver(t *testing.T) {
	l := New(9, []meta.Meta{block(1, 0, 100), block(2, 100, 200), block(3, 50, 150, id(7)), block(4, 300, 400), block(5, 300, 350, id(4))}, map[string]int{id(2): 1})
	for _, c := range []struct {
		from, to int64
		want     []string
	}{
		{0, 1 << 40, []string{id(1), id(2), id(3), id(5)}},
		{0, 1, []string{id(1)}},
		{49, 50, []string{id(1)}},
		{49, 51, []string{id(1), id(3)}},
		{99, 100, []string{id(1), id(3)}},
		{99, 101, []string{id(1), id(2), id(3)}},
		{100, 101, []string{id(2), id(3)}},
		{149, 150, []string{id(2), id(3)}},
		{150, 151, []string{id(2)}},
		{200, 300, nil},
		{199, 301, []string{id(2), id(5)}},
		{349, 400, []string{id(5)}},
		{350, 400, nil}, // the block that has these times is shadowed
		{math.MinInt64, 0, nil},
		{math.MinInt64, math.MaxInt64, []string{id(1), id(2), id(3), id(5)}},
		{500, 100, nil},
	} {
		if got := names(l.Over(c.from, c.to)); !slices.Equal(got, c.want) {
			t.Errorf("%d, %d: %q, not %q", c.from, c.to, got, c.want)
		}
	}
}

// castListing: blocks with sources of all kinds, as a number says.
func castListing(x uint32) Listing {
	next := func(n int) int {
		x = x*1664525 + 1013904223
		return int(x>>8) % n
	}
	var metas []meta.Meta
	marks := map[string]int{}
	for n := range next(12) {
		var sources []string
		for k := range 14 {
			if k != n && next(6) == 0 {
				sources = append(sources, id(k))
			}
		}
		from := int64(next(50))
		metas = append(metas, block(n, from, from+1+int64(next(20)), sources...))
		if next(3) == 0 {
			marks[id(n)] = next(400)
		}
	}
	return New(next(1000), metas, marks)
}

// P10.3: a live block is a source of none; what isn't live is one of some; each is whole, in the listing's order.
func TestLiveIsSourceOfNone(t *testing.T) {
	for x := range uint32(500) {
		l := castListing(x)
		if err := l.Check(); err != api.OK {
			t.Fatalf("%d: Check: %d", x, err)
		}
		live, over, shadowed := l.Live(), l.Over(20, 30), l.Shadowed()
		for _, m := range l.Metas {
			often := 0
			for _, other := range l.Metas {
				if slices.Contains(other.Sources, m.ID) {
					often++
				}
			}
			isLive, isOver := often == 0, often == 0 && m.Min < 30 && m.Max > 20
			if shadowed[m.ID] != often {
				t.Errorf("%d: %q is %d times a source, not %d", x, m.ID, shadowed[m.ID], often)
			}
			if isLive {
				if len(live) == 0 || !sameMeta(live[0], m) {
					t.Fatalf("%d: Live: %q isn't next", x, m.ID)
				}
				live = live[1:]
			}
			if isOver {
				if len(over) == 0 || !sameMeta(over[0], m) {
					t.Fatalf("%d: Over: %q isn't next", x, m.ID)
				}
				over = over[1:]
			}
		}
		if len(live)+len(over) != 0 {
			t.Errorf("%d: there are more: %q, %q", x, names(live), names(over))
		}
	}
}

// K3: what is handed in isn't kept, and what is answered is the caller's own.
func TestNothingIsShared(t *testing.T) {
	metas := []meta.Meta{block(3, 0, 200, id(1), id(2)), block(1, 0, 100), block(2, 100, 200)}
	marks := map[string]int{id(1): 4}
	l := New(9, metas, marks)
	if !slices.Equal(names(metas), []string{id(3), id(1), id(2)}) {
		t.Errorf("New has changed the metas: %q", names(metas))
	}
	metas[0].Sources[0], metas[1].Files[0], metas[2] = "x", meta.File{}, meta.Meta{}
	marks[id(1)], marks[id(2)] = 5, 6
	spoil := func(m meta.Meta) { m.Sources[0], m.Files[1] = "y", meta.File{} }
	found, _ := l.Find(id(3))
	spoil(found)
	spoil(l.Live()[0])
	spoil(l.Over(0, 1)[0])
	l.Live()[0].ID = "z"
	l.Shadowed()[id(1)] = 8
	back, _ := Decode(Encode(l))
	spoil(back.Metas[2])
	back.Marks[id(2)] = 1
	if !same(l, three()) {
		t.Errorf("%+v", l)
	}
}

// K3: no two lists of one answer are one.
func TestNoTwoShare(t *testing.T) {
	files, sources := []meta.File{meta.Of(ident.Chunks, ""), meta.Of(ident.Index, "")}, []string{id(7), id(8)}
	var metas []meta.Meta
	for n := range 3 {
		metas = append(metas, meta.Meta{ID: id(n), Max: 1, Level: 2, Files: files, Sources: sources})
	}
	l := Listing{At: 1, Metas: metas}
	for what, got := range map[string][]meta.Meta{"New": New(1, metas, nil).Metas, "Live": l.Live(), "Over": l.Over(0, 1)} {
		got[0].Files[0].Size, got[0].Sources[0] = 99, "x"
		if got[1].Files[0].Size != 0 || got[1].Sources[0] != id(7) || files[0].Size != 0 || sources[0] != id(7) {
			t.Errorf("%s shares", what)
		}
	}
}

// K4: twice alike, and no call changes the listing.
func TestAlike(t *testing.T) {
	for x := range uint32(50) {
		l, was := castListing(x), castListing(x)
		if !same(l, was) || l.Check() != l.Check() || Encode(l) != Encode(l) || !maps.Equal(l.Shadowed(), l.Shadowed()) ||
			!slices.EqualFunc(l.Live(), l.Live(), sameMeta) || !slices.EqualFunc(l.Over(3, 9), l.Over(3, 9), sameMeta) || !same(l, was) {
			t.Errorf("%d: %+v", x, l)
		}
	}
}

// P1, K7: no call panics, of listings that aren't as they should be either.
func TestBadListings(t *testing.T) {
	for i, l := range append(bad(), Listing{Metas: []meta.Meta{{}, {ID: "b"}, {ID: "a", Sources: []string{"b", "b"}}}}) {
		l.Find(id(1))
		l.Live()
		l.Over(0, 9)
		Encode(l)
		if got := l.Shadowed()["b"]; got != 0 && got != 2 {
			t.Errorf("bad %d: %d", i, got)
		}
	}
}

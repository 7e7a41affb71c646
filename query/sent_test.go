package query

import (
	"math"
	"testing"

	"barograph/api"
	"barograph/block"
	"barograph/bucket"
	"barograph/ident"
	"barograph/merge"
	"barograph/meta"
	"barograph/ship"
)

// P23.1: of the blocks that were sent those are read that were sent at the index's tick or later, that it hasn't, and that have times of the ask.
func TestSent(t *testing.T) {
	x, y := first(t), second(t)
	made := built(t, 3, 0, 10, []string{id(1)}, ofFirst()...)
	b := bucket.New()
	put(b, x, y, made)
	sent := func(f block.Files, ticks ...int) []ship.Sent {
		var l []ship.Sent
		for _, at := range ticks {
			l = append(l, ship.Sent{Meta: f.Meta, At: at})
		}
		return l
	}
	for _, c := range []struct {
		what     string
		index    []block.Files
		sent     []ship.Sent
		from, to int64
		steps    int
		want     []merge.Row
	}{
		{"none", []block.Files{x}, nil, 0, 100, 4, ofFirst()},
		{"at its tick", []block.Files{x}, sent(y, 7), 0, 100, 6, ofBoth()},
		{"later", []block.Files{x}, sent(y, 8), 0, 100, 6, ofBoth()},
		{"at a tick to come", []block.Files{x}, sent(y, 1<<40), 0, 100, 6, ofBoth()},
		{"ahead of it", []block.Files{x}, sent(y, 6), 0, 100, 4, ofFirst()},
		{"at a tick below 0", []block.Files{x}, sent(y, math.MinInt), 0, 100, 4, ofFirst()},
		{"that it has", []block.Files{x}, sent(x, 9), 0, 100, 4, ofFirst()},
		{"that it has, of which another one is made", []block.Files{x, made}, sent(x, 9), 0, 100, 4, ofFirst()},
		{"that it has, of other times", []block.Files{y}, sent(y, 9), 0, 10, 1, nil},
		{"up to its times", []block.Files{x}, sent(y, 7), 0, 10, 4, ofFirst()},
		{"into its times", []block.Files{x}, sent(y, 7), 0, 11, 5, ofFirst()},
		{"from its last time", []block.Files{x}, sent(y, 7), 19, 100, 2, nil},
		{"behind its times", []block.Files{x}, sent(y, 7), 20, 100, 1, nil},
		{"into an index without blocks", nil, append(sent(x, 7), sent(y, 8)...), 0, 100, 6, ofBoth()},
		{"one ahead of it, one later", nil, append(sent(x, 6), sent(y, 8)...), 0, 100, 3, ofSecond()},
		{"one later, one ahead of it", nil, append(sent(y, 8), sent(x, 6)...), 0, 100, 3, ofSecond()},
		{"twice", []block.Files{x}, sent(y, 8, 7), 0, 100, 6, ofBoth()},
		{"twice, the first time ahead of it", []block.Files{x}, sent(y, 6, 7), 0, 100, 6, ofBoth()},
		{"twice, then ahead of it", []block.Files{x}, sent(y, 7, 6), 0, 100, 6, ofBoth()},
	} {
		know(b, 7, c.index...)
		q := New(asks(c.from, c.to, ""), 5, c.sent)
		if n := ended(t, q, b, 8); n != c.steps {
			t.Errorf("%s: %d Steps, not %d", c.what, n, c.steps)
		}
		has(t, c.what, q, 7, c.want...)
	}
}

// P23.1: without an index all that was sent is read; only what is asked for of it is told.
func TestSentWithoutIndex(t *testing.T) {
	b := bucket.New()
	put(b, first(t), second(t))
	sent := []ship.Sent{{Meta: first(t).Meta}, {Meta: second(t).Meta, At: 3}}
	q := New(asks(4, 15, "a=1"), 5, sent)
	if n := ended(t, q, b, 5); n != 4 {
		t.Errorf("%d Steps", n)
	}
	has(t, "no index", q, 0, row("a=1", 4))
	q = New(all(), 5, sent)
	steps(t, "no index, and too late", q, b, 6, api.ErrStale)
	failed(t, "no index, and too late", q, 0, api.ErrStale)
}

// P23.1: a sent block that isn't one, or isn't in the bucket, ends it with an error; K7: no call panics.
func TestOddSent(t *testing.T) {
	b := two(t)
	know(b, 7)
	good := first(t).Meta
	long, gone, negative, other := good, good, good, good
	long.ID = "a name that is longer than any object's name may be"
	gone.ID = id(9)
	negative.Files = []meta.File{{Name: ident.Index, Size: -1}}
	other.Files = []meta.File{meta.Of(ident.Index, "other bytes")}
	for _, c := range []struct {
		what string
		said meta.Meta
		want api.Errno
	}{
		{"as it should be", good, api.OK},
		{"a long name", long, api.ErrStale},
		{"a name of none", gone, api.ErrStale},
		{"no such size", negative, api.ErrStale},
		{"other bytes", other, api.ErrSum},
		{"no files", meta.Meta{ID: id(1), Max: 10}, api.ErrEnd},
		{"no name", meta.Meta{Max: 10}, api.ErrStale},
		{"no name's bytes, files without names", meta.Meta{ID: "\xff/", Min: math.MinInt64, Max: math.MaxInt64, Files: make([]meta.File, 3)}, api.ErrStale},
	} {
		q := New(all(), 5, []ship.Sent{{Meta: c.said, At: 7}})
		steps(t, c.what, q, b, 7, api.OK, c.want)
		if c.want != api.OK {
			failed(t, c.what, q, 7, c.want)
		}
	}
	// One without times of the ask isn't asked for at all.
	q := New(all(), 5, []ship.Sent{{At: 7}, {Meta: meta.Meta{Min: 5, Max: -5}, At: 7}})
	steps(t, "no times", q, b, 7, api.OK)
	has(t, "no times", q, 7)
}

// P23.1: of one time of the same labels the first table's sample, then the next one's, then the index's blocks' by names, then the sent ones' in their order.
func TestOrder(t *testing.T) {
	one := func(n, from int, value uint64) block.Files {
		var r merge.Row
		r.Labels = set("a=1")
		for at := from; at < 10; at++ {
			r.Samples = append(r.Samples, api.Sample{T: int64(at), V: value})
		}
		return built(t, n, 0, 10, nil, r)
	}
	w, x, y, z := one(5, 2, 5), one(6, 1, 6), one(4, 0, 4), one(3, 0, 3)
	b := bucket.New()
	put(b, w, x, y, z)
	know(b, 7, x, w)
	sent := []ship.Sent{{Meta: y.Meta, At: 7}, {Meta: z.Meta, At: 9}}
	q := New(all(), 5, sent, []merge.Row{valued("a=1", 9, 1)}, []merge.Row{{Labels: set("a=1"), Samples: []api.Sample{{T: 8, V: 2}, {T: 9, V: 2}}}, valued("b=1", 8, 2)})
	ended(t, q, b, 8)
	want := merge.Row{Labels: set("a=1")}
	for at, v := range []uint64{4, 6, 5, 5, 5, 5, 5, 5, 2, 1} {
		want.Samples = append(want.Samples, api.Sample{T: int64(at), V: v})
	}
	has(t, "in their order", q, 7, want, valued("b=1", 8, 2))
	sent[0], sent[1] = sent[1], sent[0]
	q = New(all(), 5, sent)
	ended(t, q, b, 8)
	want.Samples[0].V, want.Samples[8].V, want.Samples[9].V = 3, 5, 5
	has(t, "in another order", q, 7, want)
}

// P23.1: of the tables, too, only what is asked for is told.
func TestTables(t *testing.T) {
	for _, c := range []struct {
		what   string
		ask    Ask
		tables [][]merge.Row
		want   []merge.Row
	}{
		{"no tables", all(), nil, nil},
		{"a table without rows", all(), [][]merge.Row{nil, {}}, nil},
		{"a row without samples", all(), [][]merge.Row{{row("a=1")}, {row("b=1", 3)}}, []merge.Row{row("b=1", 3)}},
		{"two, side by side", all(), [][]merge.Row{{row("b=1", 3)}, {row("a=1", 3)}, {row("b=1", 2)}}, []merge.Row{row("a=1", 3), row("b=1", 2, 3)}},
		{"some labels", asks(0, 100, "a=1"), [][]merge.Row{{row("a=1", 3), row("b=1", 3)}, {row("a=1,c=1", 5), row("b=1", 7)}}, []merge.Row{row("a=1", 3), row("a=1,c=1", 5)}},
		{"some times", asks(3, 5, ""), [][]merge.Row{{row("a=1", 1, 2, 3)}, {row("a=1", 4, 5, 6)}, {row("b=1", 5)}}, []merge.Row{row("a=1", 3, 4)}},
		{"times below 0", asks(-5, 0, ""), [][]merge.Row{{row("a=1", -6, -5, -1, 0)}}, []merge.Row{row("a=1", -5, -1)}},
	} {
		b := bucket.New()
		q := New(c.ask, 5, nil, c.tables...)
		busy(t, c.what, q, -1)
		steps(t, c.what, q, b, 5, api.OK)
		has(t, c.what, q, 0, c.want...)
	}
}

package plan

import (
	"maps"
	"math"
	"slices"
	"testing"

	"barograph/api"
	"barograph/ident"
	"barograph/listing"
	"barograph/meta"
)

// id: the n-th block's name.
func id(n int) string {
	s, _ := ident.Make(33, n)
	return s
}

// ids: the names of these blocks.
func ids(numbers ...int) []string {
	var l []string
	for _, n := range numbers {
		l = append(l, id(n))
	}
	return l
}

// small: the n-th block, of these times, level 1, a byte a file, a series and a sample.
func small(n int, from, to int64, sources ...string) meta.Meta {
	return meta.Meta{
		ID: id(n), Min: from, Max: to, Level: 1, Series: 1, Samples: 1,
		Files:   []meta.File{{Name: ident.Chunks, Size: 1}, {Name: ident.Index, Size: 1}},
		Sources: sources,
	}
}

// but: a block with something that is another one.
func but(m meta.Meta, change func(m *meta.Meta)) meta.Meta {
	m.Files = slices.Clone(m.Files)
	change(&m)
	return m
}

// level: a block of a level.
func level(m meta.Meta, n int) meta.Meta {
	return but(m, func(m *meta.Meta) { m.Level = n })
}

// size: a block whose files have so many bytes.
func size(m meta.Meta, chunks, index int) meta.Meta {
	return but(m, func(m *meta.Meta) { m.Files[0].Size, m.Files[1].Size = chunks, index })
}

// count: a block of so many series, and samples.
func count(m meta.Meta, series, samples int) meta.Meta {
	return but(m, func(m *meta.Meta) { m.Series, m.Samples = series, samples })
}

// of: a listing of blocks, without marks.
func of(t *testing.T, blocks ...meta.Meta) listing.Listing {
	t.Helper()
	return marked(t, nil, blocks...)
}

// marked: a listing of blocks, of which these numbers are marked.
func marked(t *testing.T, numbers []int, blocks ...meta.Meta) listing.Listing {
	t.Helper()
	marks := map[string]int{}
	for _, n := range numbers {
		// 0 is a tick as any other one.
		marks[id(n)] = n % 2
	}
	l := listing.New(9, blocks, marks)
	if err := l.Check(); err != api.OK {
		t.Fatalf("the test's own listing: %d", err)
	}
	return l
}

// sameMeta: are two metas the same, nil and empty lists alike?
func sameMeta(a, b meta.Meta) bool {
	return a.ID == b.ID && a.Min == b.Min && a.Max == b.Max && a.Level == b.Level && a.Series == b.Series && a.Samples == b.Samples &&
		slices.Equal(a.Files, b.Files) && slices.Equal(a.Sources, b.Sources)
}

// same: are two plans the same?
func same(a, b Plan) bool {
	return a.From == b.From && a.To == b.To && a.Level == b.Level && slices.EqualFunc(a.Metas, b.Metas, sameMeta)
}

// order: the names of a plan's blocks, in its order.
func order(p Plan) []string {
	var l []string
	for _, m := range p.Metas {
		l = append(l, m.ID)
	}
	return l
}

// plans: is this the plan, of these blocks in that order?
func plans(t *testing.T, what string, l listing.Listing, width, from, to int64, level int, numbers ...int) {
	t.Helper()
	p, there := Next(l, width)
	if !there || p.From != from || p.To != to || p.Level != level || !slices.Equal(order(p), ids(numbers...)) {
		t.Errorf("%s: %v, %d to %d, level %d, %q; not %d to %d, level %d, %q", what, there, p.From, p.To, p.Level, order(p), from, to, level, ids(numbers...))
	}
	for _, m := range p.Metas {
		if x, there := l.Find(m.ID); !there || !sameMeta(m, x) {
			t.Errorf("%s: %+v isn't %+v", what, m, x)
		}
	}
}

// none: is there no plan?
func none(t *testing.T, what string, l listing.Listing, width int64) {
	t.Helper()
	if p, there := Next(l, width); there || !same(p, Plan{}) {
		t.Errorf("%s: %+v, %v", what, p, there)
	}
}

// P20.1: the numbers that the chapter gives.
func TestWords(t *testing.T) {
	if Most != 1<<18 || Series != 10000 || Samples != 40000 || Blocks != 20 {
		t.Errorf("%d, %d, %d, %d", Most, Series, Samples, Blocks)
	}
}

// P20.1: the chapter's example.
func TestExample(t *testing.T) {
	plans(t, "the example", of(t, small(1, 0, 10), small(2, 10, 20)), 10, 0, 20, 2, 1, 2)
}

// P20.1, K2: where there are no two blocks in one range, there is none.
func TestNone(t *testing.T) {
	for what, l := range map[string]listing.Listing{
		"zero":                    {},
		"no blocks":               of(t),
		"one":                     of(t, small(1, 0, 10)),
		"far apart":               of(t, small(1, 0, 10), small(2, 90, 100), small(3, 180, 190)),
		"one is marked":           marked(t, []int{1}, small(1, 0, 10), small(2, 10, 20)),
		"one is marked, later":    marked(t, []int{2}, small(1, 0, 10), small(2, 10, 20)),
		"all are marked":          marked(t, []int{1, 2, 3}, small(1, 0, 10), small(2, 10, 20), small(3, 20, 30)),
		"one isn't shadowed":      of(t, small(1, 0, 10), small(2, 10, 20), small(3, 0, 20, ids(1, 2)...)),
		"shadowed by a marked":    marked(t, []int{3}, small(1, 0, 10), small(2, 10, 20), small(3, 0, 20, ids(1, 2)...)),
		"all are shadowed":        of(t, small(1, 0, 10, ids(2)...), small(2, 10, 20, ids(1)...)),
		"both out of their range": of(t, small(1, 0, 91), small(2, 1, 91)),
		"one out of its range":    of(t, small(1, 0, 91), small(2, 1, 11)),
	} {
		none(t, what, l, 10)
	}
}

// P20.1: what lies in a range, at its edges.
func TestRanges(t *testing.T) {
	for _, c := range []struct {
		what string
		l    listing.Listing
		from int64
		to   int64
		want []int
	}{
		{"the range, whole", of(t, small(1, 0, 10), small(2, 20, 30)), 0, 30, []int{1, 2}},
		{"its last tick", of(t, small(1, 0, 1), small(2, 29, 30)), 0, 30, []int{1, 2}},
		{"a later one", of(t, small(1, 300, 310), small(2, 320, 330)), 300, 330, []int{1, 2}},
		{"not from the range's beginning", of(t, small(1, 305, 307), small(2, 311, 312)), 305, 312, []int{1, 2}},
		{"the whole range, twice", of(t, small(1, 30, 60), small(2, 30, 60)), 30, 60, []int{1, 2}},
		{"one in the other", of(t, small(1, 31, 59), small(2, 40, 41)), 31, 59, []int{1, 2}},
		{"no two in the first one", of(t, small(1, 0, 10), small(2, 90, 100), small(3, 110, 120)), 90, 120, []int{2, 3}},
		{"the first of two", of(t, small(1, 30, 40), small(2, 40, 50), small(3, 0, 10), small(4, 10, 20)), 0, 20, []int{3, 4}},
		{"from the second one on", of(t, small(1, 29, 30), small(2, 30, 40), small(3, 50, 60)), 30, 60, []int{2, 3}},
		{"three", of(t, small(1, 0, 10), small(2, 10, 20), small(3, 20, 30)), 0, 30, []int{1, 2, 3}},
		{"the next one not", of(t, small(1, 0, 10), small(2, 20, 30), small(3, 30, 40)), 0, 30, []int{1, 2}},
		{"a Max behind it", of(t, small(1, 0, 10), small(2, 10, 31), small(3, 20, 30)), 0, 30, []int{1, 3}},
		{"a Max behind it, of the first", of(t, small(1, 0, 31), small(2, 10, 20), small(3, 20, 30)), 10, 30, []int{2, 3}},
		{"a Max far behind it", of(t, small(1, 0, 1<<40), small(2, 0, 20), small(3, 0, 30), small(4, 29, 1<<40)), 0, 30, []int{2, 3}},
		{"nine times as wide, then", of(t, small(1, 0, 10), small(2, 30, 40)), 0, 40, []int{1, 2}},
		{"nine times as wide, whole", of(t, small(1, 90, 100), small(2, 170, 180)), 90, 180, []int{1, 2}},
		{"nine times as wide, one of them", of(t, small(1, 90, 180), small(2, 179, 180)), 90, 180, []int{1, 2}},
		{"nine times as wide, a Max behind it", of(t, small(1, 90, 100), small(2, 130, 181), small(3, 170, 180)), 90, 180, []int{1, 3}},
		{"of two that go only there", of(t, small(1, 20, 35), small(2, 50, 61)), 20, 61, []int{1, 2}},
		{"three times comes first", of(t, small(1, 0, 10), small(2, 30, 40), small(3, 810, 820), small(4, 830, 840)), 810, 840, []int{3, 4}},
		{"three times comes first, in the same", of(t, small(1, 0, 10), small(2, 60, 70), small(3, 80, 90)), 60, 90, []int{2, 3}},
	} {
		plans(t, c.what, c.l, 10, c.from, c.to, 2, c.want...)
	}
}

// P20.1: widths below 1 are 1; the ranges are three times as wide, then nine times.
func TestWidths(t *testing.T) {
	for _, width := range []int64{1, 0, -1, -10, math.MinInt64} {
		plans(t, "below 1", of(t, small(1, 3, 4), small(2, 5, 6)), width, 3, 6, 2, 1, 2)
		plans(t, "below 1", of(t, small(1, 2, 3), small(2, 3, 4)), width, 2, 4, 2, 1, 2)
		plans(t, "below 1", of(t, small(1, 0, 1), small(2, 3, 4), small(3, 5, 6)), width, 3, 6, 2, 2, 3)
		plans(t, "below 1", of(t, small(1, 0, 1), small(2, 8, 9)), width, 0, 9, 2, 1, 2)
		none(t, "below 1", of(t, small(1, 8, 9), small(2, 9, 10)), width)
		none(t, "below 1", of(t, small(1, 0, 1), small(2, 8, 10)), width)
	}
	for _, width := range []int64{1, 2, 7, 1000, 1 << 30} {
		three, nine := 3*width, 9*width
		plans(t, "three", of(t, small(1, three, three+1), small(2, 2*three-1, 2*three)), width, three, 2*three, 2, 1, 2)
		// In one of three times the width's, but not in one of the width's, or twice it.
		plans(t, "three", of(t, small(1, 0, 1), small(2, nine, nine+1), small(3, nine+three-1, nine+three)), width, nine, nine+three, 2, 2, 3)
		plans(t, "nine", of(t, small(1, nine, nine+1), small(2, 2*nine-1, 2*nine)), width, nine, 2*nine, 2, 1, 2)
		none(t, "neither", of(t, small(1, nine-1, nine), small(2, nine, nine+1), small(3, 2*nine, 2*nine+1)), width)
		none(t, "neither", of(t, small(1, nine, nine+1), small(2, 2*nine-1, 2*nine+1)), width)
	}
	late := int64(1<<40) - (1<<40)%(9<<30)
	plans(t, "the last times", of(t, small(1, late, late+1), small(2, 1<<40-1, 1<<40)), 1<<30, late, 1<<40, 2, 1, 2)
	plans(t, "the last times", of(t, small(1, 1<<40-2, 1<<40-1), small(2, 1<<40-1, 1<<40)), 1<<20, 1<<40-2, 1<<40, 2, 1, 2)
}

// P20.1: blocks go by Min, then by names, whatever their names and the listing's order.
func TestOrder(t *testing.T) {
	plans(t, "by Min", of(t, small(1, 20, 21), small(2, 10, 30), small(3, 0, 5)), 10, 0, 30, 2, 3, 2, 1)
	plans(t, "of one Min, by names", of(t, small(5, 0, 9), small(2, 0, 3), small(4, 0, 8), small(3, 1, 2), small(6, 0, 1)), 10, 0, 9, 2, 2, 4, 5, 6, 3)
	// The first ones by Min are the plan's, not the first ones by names.
	var l []meta.Meta
	var want []int
	for n := 30; n >= 1; n-- {
		l = append(l, small(n, int64(30-n), 30))
		if len(want) < Blocks {
			want = append(want, n)
		}
	}
	plans(t, "the first ones", of(t, l...), 10, 0, 30, 2, want...)
}

// P20.1: From is the least Min, To the greatest Max, also where that isn't the last one's.
func TestTimes(t *testing.T) {
	plans(t, "the first one's", of(t, small(1, 2, 28), small(2, 3, 5), small(3, 10, 12)), 10, 2, 28, 2, 1, 2, 3)
	plans(t, "the second one's", of(t, small(1, 2, 4), small(2, 3, 25), small(3, 10, 12)), 10, 2, 25, 2, 1, 2, 3)
	plans(t, "the last one's", of(t, small(1, 2, 4), small(2, 3, 5), small(3, 3, 29)), 10, 2, 29, 2, 1, 2, 3)
}

// P20.1: the greatest level and 1, at most 9.
func TestLevels(t *testing.T) {
	for _, c := range []struct{ a, b, c, want int }{
		{1, 1, 1, 2}, {2, 1, 1, 3}, {1, 2, 1, 3}, {1, 1, 2, 3}, {3, 5, 4, 6}, {7, 7, 7, 8}, {8, 1, 1, 9}, {1, 9, 1, 9}, {9, 9, 9, 9}, {8, 9, 7, 9},
	} {
		l := of(t, level(small(1, 0, 10), c.a), level(small(2, 10, 20), c.b), level(small(3, 20, 30), c.c))
		plans(t, "levels", l, 10, 0, 30, c.want, 1, 2, 3)
	}
	// Of the blocks of the plan alone.
	plans(t, "another one's", of(t, small(1, 0, 10), small(2, 10, 20), level(small(3, 30, 40), 7)), 10, 0, 20, 2, 1, 2)
}

// P20.1: what isn't live, or is marked, isn't in a plan; a source that isn't there plays no part.
func TestFree(t *testing.T) {
	plans(t, "a marked one between", marked(t, []int{2}, small(1, 0, 10), small(2, 10, 20), small(3, 20, 30)), 10, 0, 30, 2, 1, 3)
	plans(t, "marked at 0", marked(t, []int{2, 4}, small(1, 0, 10), small(2, 0, 30), small(3, 20, 25), small(4, 21, 29)), 10, 0, 25, 2, 1, 3)
	plans(t, "a shadowed one between", of(t, small(1, 0, 10), small(2, 10, 20), small(3, 20, 30), small(4, 100, 110, ids(2)...)), 10, 0, 30, 2, 1, 3)
	plans(t, "one that was made", of(t, small(1, 0, 10), small(2, 10, 20), level(small(3, 0, 20, ids(1, 2)...), 2), small(4, 20, 30)), 10, 0, 30, 3, 3, 4)
	plans(t, "shadowed by a marked one", marked(t, []int{3}, small(1, 0, 10), small(2, 10, 20), small(3, 0, 10, ids(1)...), small(4, 20, 30)), 10, 10, 30, 2, 2, 4)
	plans(t, "sources that are gone", of(t, small(3, 0, 10, ids(1, 2)...), small(4, 20, 30, ids(5)...)), 10, 0, 30, 2, 3, 4)
}

// P20.1: of a group the first ones, as many as are within a limit together; a block that is one too many ends them, whatever is behind it.
func TestLimits(t *testing.T) {
	for _, c := range []struct {
		what string
		heap func(m meta.Meta, n int) meta.Meta
		most int
	}{
		{"bytes of chunks", func(m meta.Meta, n int) meta.Meta { return size(m, n, 0) }, Most},
		{"bytes of the index", func(m meta.Meta, n int) meta.Meta { return size(m, 0, n) }, Most},
		{"bytes of both", func(m meta.Meta, n int) meta.Meta { return size(m, n-n/2, n/2) }, Most},
		{"series", func(m meta.Meta, n int) meta.Meta { return count(m, n, n) }, Series},
		{"samples", func(m meta.Meta, n int) meta.Meta { return count(m, 0, n) }, Samples},
	} {
		at := func(n, amount int) meta.Meta { return c.heap(small(n, int64(n), int64(n)+1), amount) }
		plans(t, c.what+", just", of(t, at(1, 7), at(2, c.most-7)), 10, 1, 3, 2, 1, 2)
		plans(t, c.what+", just, of none", of(t, at(1, 0), at(2, c.most)), 10, 1, 3, 2, 1, 2)
		none(t, c.what+", one more", of(t, at(1, 7), at(2, c.most-6)), 10)
		none(t, c.what+", one too great", of(t, at(1, 0), at(2, c.most+1)), 10)
		none(t, c.what+", the first one too great", of(t, at(1, c.most+1), at(2, 0)), 10)
		none(t, c.what+", both too great", of(t, at(1, c.most+1), at(2, c.most+1)), 10)
		plans(t, c.what+", of three the first two", of(t, at(1, 7), at(2, c.most-8), at(3, 2)), 10, 1, 3, 2, 1, 2)
		plans(t, c.what+", three", of(t, at(1, 7), at(2, c.most-8), at(3, 1)), 10, 1, 4, 2, 1, 2, 3)
		plans(t, c.what+", of four the first two", of(t, at(1, 1), at(2, 1), at(3, c.most), at(4, 0)), 10, 1, 3, 2, 1, 2)
		plans(t, c.what+", from the second on", of(t, at(1, 7), at(2, c.most-6), at(3, 6)), 10, 2, 4, 2, 2, 3)
		plans(t, c.what+", from the third on", of(t, at(1, 1), at(2, c.most), at(3, 1), at(4, 1)), 10, 3, 5, 2, 3, 4)
		plans(t, c.what+", a great one ahead", of(t, at(1, c.most+1), at(2, 1), at(3, 1)), 10, 2, 4, 2, 2, 3)
		// What lies not in the range doesn't count.
		far := c.heap(small(2, 2, 95), c.most)
		plans(t, c.what+", one that doesn't lie there", of(t, at(1, 7), far, at(3, c.most-7)), 10, 1, 4, 2, 1, 3)
		plans(t, c.what+", a marked one", marked(t, []int{2}, at(1, 7), at(2, c.most), at(3, c.most-7)), 10, 1, 4, 2, 1, 3)
	}
}

// P20.1: the limits hold together: each alone ends the first ones.
func TestLimitsTogether(t *testing.T) {
	full := count(size(small(1, 1, 2), Most-1, 0), Series-1, Samples-1)
	plans(t, "all three, just", of(t, full, count(size(small(2, 2, 3), 1, 0), 1, 1)), 10, 1, 3, 2, 1, 2)
	none(t, "a byte", of(t, full, count(size(small(2, 2, 3), 1, 1), 1, 1)), 10)
	none(t, "a series", of(t, count(full, Series-1, Series-1), count(size(small(2, 2, 3), 1, 0), 2, 2)), 10)
	none(t, "a sample", of(t, full, count(size(small(2, 2, 3), 1, 0), 1, 2)), 10)
}

// P20.1: at most 20 blocks.
func TestBlocks(t *testing.T) {
	for _, n := range []int{2, 19, 20, 21, 22, 40, 41} {
		var l []meta.Meta
		var want []int
		for i := range n {
			l = append(l, small(i, int64(i), int64(i)+1))
			if i < 20 {
				want = append(want, i)
			}
		}
		plans(t, "blocks", of(t, l...), 100, 0, int64(min(n, 20)), 2, want...)
	}
}

// P20.1: a plan's names, rising, whatever the order of its blocks.
func TestNames(t *testing.T) {
	p, _ := Next(of(t, small(4, 20, 21), small(2, 10, 30), small(3, 0, 5), small(1, 11, 12)), 10)
	if !slices.Equal(order(p), ids(3, 2, 1, 4)) {
		t.Fatalf("Next: %q", order(p))
	}
	names := p.Names()
	if !slices.Equal(names, ids(1, 2, 3, 4)) || !slices.Equal(order(p), ids(3, 2, 1, 4)) {
		t.Errorf("Names: %q, of %q", names, order(p))
	}
	clear(names)
	if again := p.Names(); !slices.Equal(again, ids(1, 2, 3, 4)) {
		t.Errorf("again: %q", again)
	}
	if names := (Plan{}).Names(); len(names) != 0 {
		t.Errorf("zero: %q", names)
	}
}

// P20.1: what is to be marked: what some block that isn't marked has as a source, and isn't marked.
func TestToMark(t *testing.T) {
	for what, c := range map[string]struct {
		l    listing.Listing
		want []int
	}{
		"zero":                        {listing.Listing{}, nil},
		"no sources":                  {of(t, small(1, 0, 10), small(2, 10, 20)), nil},
		"two sources":                 {of(t, small(1, 0, 10), small(2, 10, 20), small(3, 0, 20, ids(1, 2)...)), []int{1, 2}},
		"sources of a lesser name":    {of(t, small(9, 0, 10), small(8, 10, 20), small(3, 0, 20, ids(8, 9)...)), []int{8, 9}},
		"one is marked":               {marked(t, []int{1}, small(1, 0, 10), small(2, 10, 20), small(3, 0, 20, ids(1, 2)...)), []int{2}},
		"one is marked at 0":          {marked(t, []int{2}, small(1, 0, 10), small(2, 10, 20), small(3, 0, 20, ids(1, 2)...)), []int{1}},
		"all are marked":              {marked(t, []int{1, 2}, small(1, 0, 10), small(2, 10, 20), small(3, 0, 20, ids(1, 2)...)), nil},
		"the one that has them is":    {marked(t, []int{3}, small(1, 0, 10), small(2, 10, 20), small(3, 0, 20, ids(1, 2)...)), nil},
		"it is, at 0":                 {marked(t, []int{4}, small(1, 0, 10), small(2, 10, 20), small(4, 0, 20, ids(1, 2)...)), nil},
		"one of two that have it is":  {marked(t, []int{3}, small(1, 0, 10), small(2, 10, 20), small(3, 0, 20, ids(1, 2)...), small(4, 0, 10, ids(1)...)), []int{1}},
		"a source of a source":        {of(t, small(1, 0, 10), small(2, 0, 10, ids(1)...), small(3, 0, 20, ids(2)...)), []int{1, 2}},
		"of a source that is marked":  {marked(t, []int{2}, small(1, 0, 10), small(2, 0, 10, ids(1)...), small(3, 0, 20, ids(2)...)), nil},
		"a source of two":             {of(t, small(1, 0, 10), small(2, 0, 10, ids(1)...), small(3, 0, 20, ids(1)...)), []int{1}},
		"sources that aren't there":   {of(t, small(3, 0, 20, ids(1, 2)...)), nil},
		"one that isn't there":        {of(t, small(2, 0, 10), small(3, 0, 20, ids(1, 2, 5)...)), []int{2}},
		"each other's":                {of(t, small(1, 0, 10, ids(2)...), small(2, 0, 10, ids(1)...)), []int{1, 2}},
		"by rising names":             {of(t, small(7, 0, 1), small(2, 90, 91), small(5, 3, 4), small(4, 0, 91, ids(2, 7)...), small(6, 0, 9, ids(5)...)), []int{2, 5, 7}},
		"a block that isn't a source": {marked(t, []int{4}, small(1, 0, 10), small(2, 0, 10), small(3, 0, 9, ids(1)...), small(4, 0, 9)), []int{1}},
	} {
		if got := ToMark(c.l); !slices.Equal(got, ids(c.want...)) {
			t.Errorf("%s: %q, not %q", what, got, ids(c.want...))
		}
	}
}

// P20.1, P20.3: one less than there are free blocks, at least 0.
func TestRank(t *testing.T) {
	for what, c := range map[string]struct {
		l    listing.Listing
		want int
	}{
		"zero":                 {listing.Listing{}, 0},
		"one":                  {of(t, small(1, 0, 10)), 0},
		"two":                  {of(t, small(1, 0, 10), small(2, 10, 20)), 1},
		"far apart":            {of(t, small(1, 0, 10), small(2, 1000, 1001), small(3, 0, 1<<40)), 2},
		"one is marked":        {marked(t, []int{2}, small(1, 0, 10), small(2, 10, 20), small(3, 20, 30)), 1},
		"all are marked":       {marked(t, []int{1, 2}, small(1, 0, 10), small(2, 10, 20)), 0},
		"two are shadowed":     {of(t, small(1, 0, 10), small(2, 10, 20), small(3, 0, 20, ids(1, 2)...), small(4, 0, 9)), 1},
		"shadowed and marked":  {marked(t, []int{1, 2}, small(1, 0, 10), small(2, 10, 20), small(3, 0, 20, ids(1, 2)...), small(4, 0, 9)), 1},
		"shadowed by a marked": {marked(t, []int{3}, small(1, 0, 10), small(2, 10, 20), small(3, 0, 20, ids(1, 2)...)), 0},
		"all are shadowed":     {of(t, small(1, 0, 10, ids(2)...), small(2, 10, 20, ids(1)...)), 0},
	} {
		if got := Rank(c.l); got != c.want {
			t.Errorf("%s: %d, not %d", what, got, c.want)
		}
	}
}

// K3: no call changes the listing that it is handed, and what is answered shares nothing with it.
func TestAnswersAreOwn(t *testing.T) {
	fresh := func() listing.Listing {
		return marked(t, []int{6}, small(3, 0, 20, ids(1, 2)...), small(4, 20, 30, ids(5)...), small(5, 20, 30), small(6, 0, 10), small(7, 15, 16))
	}
	l, was := fresh(), fresh()
	p, _ := Next(l, 10)
	names, marks := p.Names(), ToMark(l)
	Rank(l)
	for _, m := range p.Metas {
		m.Files[0].Size = 99
		clear(m.Sources)
		_ = append(m.Files, meta.File{Name: "x"})
	}
	clear(p.Metas)
	clear(names)
	clear(marks)
	if !slices.EqualFunc(l.Metas, was.Metas, sameMeta) || !maps.Equal(l.Marks, was.Marks) || l.At != was.At {
		t.Errorf("the listing: %+v, not %+v", l, was)
	}
	a, _ := Next(l, 10)
	b, _ := Next(was, 10)
	if !same(a, b) || !slices.Equal(order(a), ids(3, 7, 4)) {
		t.Errorf("the next one: %+v, not %+v", a, b)
	}
	// Nor does the plan change with the listing.
	l.Metas[0].Sources[0], l.Metas[0].Files[0].Size = "x", 77
	if !same(a, b) {
		t.Errorf("the listing was written to: %+v, not %+v", a, b)
	}
}

// K7: also of listings, and widths, that needn't be asked no call panics, and each ends.
func TestOddListings(t *testing.T) {
	odd := []meta.Meta{
		{}, {ID: "x"}, {ID: "x", Min: -7, Max: -5}, {ID: "y", Min: math.MinInt64, Max: math.MaxInt64}, {ID: "z", Min: math.MaxInt64, Max: math.MinInt64},
		{ID: id(1), Sources: []string{id(1)}}, {ID: id(2), Level: math.MaxInt, Series: math.MaxInt, Samples: math.MinInt}, {ID: id(3), Files: make([]meta.File, 9)},
	}
	l := listing.Listing{At: -1, Metas: odd, Marks: map[string]int{"": -5, "q": 3}}
	for _, width := range []int64{math.MinInt64, -1, 0, 1, 10, 1 << 30, 1 << 40, 1 << 61, 1 << 62, 1<<62 + 1, math.MaxInt64/3 + 1, math.MaxInt64/9 + 1, math.MaxInt64} {
		Next(l, width)
		Next(of(t, small(1, 0, 10), small(2, 10, 20)), width)
	}
	ToMark(l)
	if Rank(l) < 0 {
		t.Error("Rank")
	}
}

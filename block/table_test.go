package block

import (
	"slices"
	"testing"

	"barograph/api"
	"barograph/label"
	"barograph/merge"
	"barograph/meta"
)

// samples: of times, with values that are seven times these.
func samples(times ...int64) []api.Sample {
	return row("", times...).Samples
}

// P16.1: the samples of some chunks.
func TestChunks(t *testing.T) {
	chunk := func(times ...int64) string { return record(4, bits(t, samples(times...))) }
	full := long("", 120, 0, 10).Samples
	for _, c := range []struct {
		what, s string
		want    []api.Sample
		err     api.Errno
	}{
		{"nothing", "", nil, api.OK},
		{"one", chunk(5), samples(5), api.OK},
		{"several", chunk(1, 5, 7), samples(1, 5, 7), api.OK},
		{"a full one", record(4, bits(t, full)), full, api.OK},
		{"two", chunk(1, 5) + chunk(6), samples(1, 5, 6), api.OK},
		{"three that aren't full", chunk(1) + chunk(2, 3) + chunk(4), samples(1, 2, 3, 4), api.OK},
		{"the first and the last time", chunk(0) + chunk(1<<40), samples(0, 1<<40), api.OK},
		{"bytes that are no record", "x", nil, api.ErrSum},
		{"a byte behind", chunk(5) + "\x04", nil, api.ErrSum},
		{"a byte ahead", "\x04" + chunk(5), nil, api.ErrSum},
		{"a record that is cut", chunk(5) + chunk(6)[:10], nil, api.ErrSum},
		{"a sum that isn't", chunk(5)[:3] + "\x00\x00\x00" + chunk(5)[6:], nil, api.ErrSum},
		{"kind 5", record(5, bits(t, samples(5))), nil, api.ErrForm},
		{"kind 3", record(3, bits(t, samples(5))), nil, api.ErrForm},
		{"a second of kind 0", chunk(5) + record(0, bits(t, samples(6))), nil, api.ErrForm},
		{"no samples", record(4, bits(t, nil)), nil, api.ErrForm},
		{"a second without samples", chunk(5) + record(4, bits(t, nil)), nil, api.ErrForm},
		{"a first without samples", record(4, bits(t, nil)) + chunk(5), nil, api.ErrForm},
		{"no chunk", record(4, "x"), nil, api.ErrForm},
		{"no bytes", record(4, ""), nil, api.ErrForm},
		{"a chunk, and a byte", record(4, bits(t, samples(5))+"\x00"), nil, api.ErrForm},
		{"a chunk that is cut", record(4, bits(t, samples(5))[:9]), nil, api.ErrForm},
		{"more than 120 samples", record(4, "\x79"+bits(t, full)[1:]), nil, api.ErrForm},
		{"a time twice", chunk(1, 5) + chunk(5, 6), nil, api.ErrForm},
		{"times that fall", chunk(1, 5) + chunk(4, 6), nil, api.ErrForm},
		{"a chunk twice", chunk(5) + chunk(5), nil, api.ErrForm},
		{"a third that falls", chunk(1) + chunk(9) + chunk(5), nil, api.ErrForm},
		{"time 0 twice", chunk(0) + chunk(0), nil, api.ErrForm},
		{"another kind, and a record that is cut", record(5, "") + "\x04", nil, api.ErrSum},
		{"times that fall, and a record that is cut", chunk(5) + chunk(4) + "\x04", nil, api.ErrSum},
	} {
		l, err := Chunks(c.s)
		if !slices.Equal(l, c.want) || err != c.err || err != api.OK && l != nil {
			t.Errorf("%s: %v, %d, not %d", c.what, l, err, c.err)
		}
	}
}

// filesOf: what a meta says of a block's files.
func filesOf(f Files) []meta.File {
	return []meta.File{meta.Of("chunks", f.Chunks), meta.Of("index", f.Index)}
}

// made: a block of these chunks and entries, of times from 5 on, ahead of 20, whose sums are right.
func made(chunks string, series, count int, l ...Entry) Files {
	f := Files{Chunks: chunks, Index: Index(l)}
	f.Meta = meta.Meta{ID: id(1), Min: 5, Max: 20, Level: 1, Series: series, Samples: count, Files: filesOf(f)}
	return f
}

// P16.1, K2: what is no block though its sums are right, with the error that the chapter names first.
func TestTableErrors(t *testing.T) {
	one := chunks(t, samples(5, 9))
	two := chunks(t, samples(7, 8, 19))
	x, y := len(one), len(two)
	both := one + two
	a := func(from, n int, low, high int64) Entry { return entry("a=1", from, n, low, high) }
	b := func(from, n int, low, high int64) Entry { return entry("b=1", from, n, low, high) }
	firstA, thenB := a(0, x, 5, 9), b(x, y, 7, 19)
	good := []merge.Row{{Labels: set("a=1"), Samples: samples(5, 9)}, {Labels: set("b=1"), Samples: samples(7, 8, 19)}}
	if l, err := made(both, 2, 5, firstA, thenB).Table(); err != api.OK || !equal(l, good) {
		t.Fatalf("%v, %d", l, err)
	}
	if l, err := made("", 0, 0).Table(); err != api.OK || len(l) != 0 {
		t.Fatalf("%v, %d", l, err)
	}
	torn := one[:x-1]
	for _, c := range []struct {
		what string
		f    Files
		err  api.Errno
	}{
		{"Entries' error", made(both, 2, 5, thenB, firstA), api.ErrForm},
		{"Entries' other error", made(both, 2, 5, a(0, 1<<21, 5, 9)), api.ErrBig},
		{"a first one that begins behind", made("x"+one, 1, 2, a(1, x, 5, 9)), api.ErrForm},
		{"a gap", made(one+"x"+two, 2, 5, firstA, b(x+1, y, 7, 19)), api.ErrForm},
		{"one in the other", made(both, 2, 5, firstA, b(0, x, 5, 9)), api.ErrForm},
		{"the other way round", made(both, 2, 5, a(x, y, 7, 19), b(0, x, 5, 9)), api.ErrForm},
		{"a byte more than are left", made(one, 1, 2, a(0, x+1, 5, 9)), api.ErrForm},
		{"a byte more than are left for the second", made(both, 2, 5, firstA, b(x, y+1, 7, 19)), api.ErrForm},
		{"many more than are left", made(one, 1, 2, a(0, 1<<20, 5, 9)), api.ErrForm},
		{"none left", made(one, 2, 4, firstA, b(x, 1, 7, 19)), api.ErrForm},
		{"too few bytes", made(both, 2, 5, a(0, x-1, 5, 9), b(x-1, y+1, 7, 19)), api.ErrSum},
		{"a torn chunk", made(torn, 1, 2, a(0, x-1, 5, 9)), api.ErrSum},
		{"a torn chunk, and other times", made(torn, 1, 2, a(0, x-1, 1, 90)), api.ErrSum},
		{"a torn chunk, and other numbers", made(torn, 7, 70, a(0, x-1, 5, 9)), api.ErrSum},
		{"a torn chunk behind one of other times", made(both[:x+y-1], 2, 5, a(0, x, 5, 8), b(x, y-1, 7, 19)), api.ErrForm},
		{"no chunk", made(record(4, "x"), 1, 1, a(0, len(record(4, "x")), 5, 9)), api.ErrForm},
		{"a record of another kind", made(record(5, bits(t, samples(5, 9))), 1, 2, a(0, x, 5, 9)), api.ErrForm},
		{"chunks that fall", made(two+one, 1, 5, a(0, x+y, 7, 9)), api.ErrForm},
		{"a Min below its samples'", made(both, 2, 5, firstA, b(x, y, 6, 19)), api.ErrForm},
		{"a Min above its samples'", made(both, 2, 5, firstA, b(x, y, 8, 19)), api.ErrForm},
		{"a Max below its samples'", made(both, 2, 5, firstA, b(x, y, 7, 18)), api.ErrForm},
		{"a Max above its samples'", made(both, 2, 5, a(0, x, 5, 10), thenB), api.ErrForm},
		{"a byte left", made(both+"x", 2, 5, firstA, thenB), api.ErrForm},
		{"a chunk left", made(both+two, 2, 5, firstA, thenB), api.ErrForm},
		{"chunks without entries", made(one, 0, 0), api.ErrForm},
		{"a series more", made(both, 3, 5, firstA, thenB), api.ErrForm},
		{"a series less", made(both, 1, 5, firstA, thenB), api.ErrForm},
		{"a sample more", made(both, 2, 6, firstA, thenB), api.ErrForm},
		{"a sample less", made(both, 2, 4, firstA, thenB), api.ErrForm},
		{"a series of none", made("", 1, 1), api.ErrForm},
	} {
		if l, err := c.f.Table(); err != c.err || l != nil {
			t.Errorf("%s: %v, %d, not %d", c.what, l, err, c.err)
		}
	}
}

// P16.1: an entry's times are the meta's: from Min on, ahead of Max.
func TestTableTimes(t *testing.T) {
	for _, c := range []struct {
		low, high int64
		err       api.Errno
	}{{5, 19, api.OK}, {5, 5, api.OK}, {19, 19, api.OK}, {4, 19, api.ErrForm}, {5, 20, api.ErrForm}, {4, 4, api.ErrForm}, {20, 20, api.ErrForm}, {0, 1 << 40, api.ErrForm}} {
		l := slices.Compact([]api.Sample{{T: c.low, V: 1}, {T: c.high, V: 1}})
		s := chunks(t, l)
		f := made(s, 1, len(l), entry("a=1", 0, len(s), c.low, c.high))
		got, err := f.Table()
		if err != c.err || (err == api.OK) != equal(got, []merge.Row{{Labels: set("a=1"), Samples: l}}) {
			t.Errorf("%d to %d: %v, %d", c.low, c.high, got, err)
		}
	}
}

// K2: files' bytes that aren't those of the meta come first.
func TestTableSums(t *testing.T) {
	f := builds(t, "a table", 0, 10, []merge.Row{row("a=1", 5)})
	for i, change := range []func(g *Files){
		func(g *Files) { g.Chunks += "x" },
		func(g *Files) { g.Chunks = "" },
		func(g *Files) { g.Index += "x" },
		func(g *Files) { g.Index = "" },
		func(g *Files) { g.Chunks, g.Index = g.Index, g.Chunks },
		func(g *Files) { g.Meta.Files[0].Size++ },
		func(g *Files) { g.Meta.Files[0].Sum++ },
		func(g *Files) { g.Meta.Files[1].Size++ },
		func(g *Files) { g.Meta.Files[1].Sum++ },
		func(g *Files) { g.Index = "x"; g.Meta.Files[0].Sum++; g.Meta.Files[1] = meta.Of("index", "x") },
		func(g *Files) { g.Meta.Series, g.Meta.Samples = 7, 8; g.Meta.Files[0].Sum++ },
	} {
		g := f
		g.Meta.Files = slices.Clone(f.Meta.Files)
		change(&g)
		if l, err := g.Table(); err != api.ErrSum || l != nil {
			t.Errorf("%d: %v, %d", i, l, err)
		}
	}
	// Other files of which the sums are right are asked further.
	g := Files{Meta: f.Meta, Chunks: f.Chunks, Index: "x"}
	g.Meta.Files = filesOf(g)
	if l, err := g.Table(); err != api.ErrEnd || l != nil {
		t.Errorf("%v, %d", l, err)
	}
}

// K7: also a block that Table needn't be asked of, the zero one, ends.
func TestTableOfNone(t *testing.T) {
	if l, err := (Files{}).Table(); err == api.OK || l != nil {
		t.Errorf("%v, %d", l, err)
	}
}

// P16.1: a row's labels and values are those that were built.
func TestTableLabels(t *testing.T) {
	value := string([]byte{0, 255, ',', '='})
	table := []merge.Row{{Labels: label.Set{{Name: "_", Value: value}}, Samples: []api.Sample{{T: 5, V: 1 << 63}, {T: 6}, {T: 9, V: 1<<64 - 1}}}}
	builds(t, "odd values", 5, 10, table)
}

package block

import (
	"math"
	"slices"
	"strconv"
	"strings"
	"sync"
	"testing"

	"barograph/api"
	"barograph/frame"
	"barograph/ident"
	"barograph/label"
	"barograph/leb"
	"barograph/merge"
	"barograph/meta"
	"barograph/xor"
)

// set: the labels of a text; none of one that has none.
func set(s string) label.Set {
	l, _ := label.Parse(s)
	return l
}

// row: labels, and samples whose values are seven times their times.
func row(s string, times ...int64) merge.Row {
	r := merge.Row{Labels: set(s)}
	for _, at := range times {
		r.Samples = append(r.Samples, api.Sample{T: at, V: uint64(7 * at)})
	}
	return r
}

// long: a row of n samples, from a time on, step by step.
func long(s string, n int, from, step int64) merge.Row {
	r := merge.Row{Labels: set(s)}
	for i := range int64(n) {
		r.Samples = append(r.Samples, api.Sample{T: from + i*step, V: uint64(i * i)})
	}
	return r
}

// id: the name of the n-th block.
func id(n int) string {
	s, _ := ident.Make(33, n)
	return s
}

// equal: have two tables the same rows?
func equal(a, b []merge.Row) bool {
	return slices.EqualFunc(a, b, func(x, y merge.Row) bool {
		return slices.Equal(x.Labels, y.Labels) && slices.Equal(x.Samples, y.Samples)
	})
}

// same: are two blocks the same?
func same(a, b Files) bool {
	x, y := a.Meta, b.Meta
	return x.ID == y.ID && x.Min == y.Min && x.Max == y.Max && x.Level == y.Level && x.Series == y.Series && x.Samples == y.Samples &&
		slices.Equal(x.Files, y.Files) && slices.Equal(x.Sources, y.Sources) && a.Chunks == b.Chunks && a.Index == b.Index
}

// clone: the same table, in memory of its own.
func clone(l []merge.Row) []merge.Row {
	var rows []merge.Row
	for _, r := range l {
		rows = append(rows, merge.Row{Labels: slices.Clone(r.Labels), Samples: slices.Clone(r.Samples)})
	}
	return rows
}

// record: the bytes of a record.
func record(kind byte, data string) string {
	return string(frame.Append(nil, frame.Rec{Kind: kind, Data: data}))
}

// numbers: these, one behind the other.
func numbers(l ...uint64) string {
	var b []byte
	for _, v := range l {
		b = leb.Uint(b, v)
	}
	return string(b)
}

// bits: the bytes of a chunk of samples.
func bits(t *testing.T, l []api.Sample) string {
	t.Helper()
	s, err := xor.Of(l)
	if err != api.OK {
		t.Fatalf("the test's own samples: %d", err)
	}
	return s
}

// chunks: the records of a row's samples, by the chapter's words.
func chunks(t *testing.T, l []api.Sample) string {
	t.Helper()
	var s strings.Builder
	for len(l) > 120 {
		s.WriteString(record(4, bits(t, l[:120])))
		l = l[120:]
	}
	return s.String() + record(4, bits(t, l))
}

// spelt: the block of a table that may be, by the chapter's words.
func spelt(t *testing.T, name string, from, to int64, level int, sources []string, table []merge.Row) Files {
	t.Helper()
	var f Files
	var text, fields strings.Builder
	fields.WriteString(numbers(uint64(len(table))))
	samples := 0
	for _, r := range table {
		s := chunks(t, r.Samples)
		first, last := r.Samples[0].T, r.Samples[len(r.Samples)-1].T
		fields.WriteString(r.Labels.Key() + numbers(uint64(text.Len()), uint64(len(s)), uint64(first), uint64(last)))
		text.WriteString(s)
		samples += len(r.Samples)
	}
	f.Chunks, f.Index = text.String(), record(5, fields.String())
	f.Meta = meta.Meta{ID: name, Min: from, Max: to, Level: level, Series: len(table), Samples: samples, Sources: sources,
		Files: []meta.File{{Name: "chunks", Size: len(f.Chunks), Sum: frame.Sum(f.Chunks)}, {Name: "index", Size: len(f.Index), Sum: frame.Sum(f.Index)}}}
	return f
}

// builds: is the block of a table as the chapter's words say, and is it read back?
func builds(t *testing.T, what string, from, to int64, table []merge.Row) Files {
	t.Helper()
	f, err := Build(id(1), from, to, 2, []string{id(3), id(4)}, table)
	if err != api.OK || !same(f, spelt(t, id(1), from, to, 2, []string{id(3), id(4)}, table)) {
		t.Errorf("%s: Build: %+v, %d", what, f.Meta, err)
	}
	got, err := f.Table()
	if err != api.OK || !equal(got, table) {
		t.Errorf("%s: Table: %d rows, %d", what, len(got), err)
	}
	return f
}

// refuses: is there no such block?
func refuses(t *testing.T, what string, f Files, err, want api.Errno) {
	t.Helper()
	if err != want || !same(f, Files{}) || f.Meta.Files != nil || f.Meta.Sources != nil {
		t.Errorf("%s: %+v, %d, not %d", what, f.Meta, err, want)
	}
}

// many: a table of n rows, each with one sample.
func many(n int) []merge.Row {
	var l []merge.Row
	for i := range n {
		l = append(l, row("n="+strconv.Itoa(100000+i), 5))
	}
	return l
}

// P16.1: the chapter's example.
func TestExample(t *testing.T) {
	f := builds(t, "the example", 0, 2000, []merge.Row{long("a=1", 121, 0, 10)})
	records, n := frame.All(f.Chunks)
	if len(records) != 2 || n != len(f.Chunks) {
		t.Errorf("%d chunks", len(records))
	}
	l, err := Entries(f.Index)
	if err != api.OK || len(l) != 1 {
		t.Errorf("%d entries, %d", len(l), err)
	}
}

// P16.1: a block's bytes, written out.
func TestBytes(t *testing.T) {
	table := []merge.Row{{Labels: set("a=1"), Samples: []api.Sample{{T: 10, V: 7}}}, {Labels: set("b=2,c=3"), Samples: []api.Sample{{T: 300, V: 1}}}}
	f, err := Build(id(1), 10, 301, 1, nil, table)
	first := record(4, "\x01\x69\x00\x00\x00\x00\x05\x00\x00\x00\x00\x00\x00\x00\x03\x80")
	second := record(4, "\x01\x69\x00\x00\x00\x00\x96\x00\x00\x00\x00\x00\x00\x00\x00\x80")
	index := record(5, "\x02"+"\x01\x01a\x011"+"\x00\x16\x0a\x0a"+"\x02\x01b\x012\x01c\x013"+"\x16\x16\xac\x02\xac\x02")
	if err != api.OK || f.Chunks != first+second || f.Index != index {
		t.Errorf("%x, %x, %d", f.Chunks, f.Index, err)
	}
	want := meta.Meta{ID: id(1), Min: 10, Max: 301, Level: 1, Series: 2, Samples: 2, Files: []meta.File{meta.Of("chunks", first+second), meta.Of("index", index)}}
	if !same(f, Files{want, first + second, index}) {
		t.Errorf("%+v", f.Meta)
	}
}

// P16.1, P16.2: tables that may be, and the edges of what may be.
func TestBuild(t *testing.T) {
	builds(t, "no rows", 0, 1, nil)
	builds(t, "no rows, an empty list", 5, 6, []merge.Row{})
	builds(t, "one sample, of its one time", 5, 6, []merge.Row{row("a=1", 5)})
	builds(t, "the first and the last time", 0, 1<<40, []merge.Row{row("a=1", 0, 1<<40-1), row("b=1", 1<<40-1)})
	builds(t, "several rows", 3, 100, []merge.Row{row("a=1", 3, 99), row("a=1,b=1", 50), row("a=2", 4, 5, 6), row("b=1", 3)})
	builds(t, "eight labels", 0, 9, []merge.Row{row("a=1,b=2,c=3,d=4,e=5,f=6,g=7,h=8", 8)})
	for _, n := range []int{1, 2, 119, 120, 121, 239, 240, 241, 1000} {
		f := builds(t, strconv.Itoa(n)+" samples", 10, 100000, []merge.Row{long("a=1", n, 10, 3), row("b=1", 11), long("c=1", n, 15, 60)})
		records, _ := frame.All(f.Chunks)
		if whole := 2*((n+119)/120) + 1; len(records) != whole {
			t.Errorf("%d samples: %d chunks", n, len(records))
		}
		for _, r := range records {
			if l, err := xor.Samples(r.Data); r.Kind != 4 || err != api.OK || len(l) < 1 || len(l) > 120 {
				t.Errorf("%d samples: a chunk of %d, %d", n, len(l), err)
			}
		}
	}
	builds(t, "10000 rows", 0, 9, many(10000))
}

// P16.1: the meta's numbers are handed through; what may not be a meta is refused.
func TestBuildMeta(t *testing.T) {
	table := []merge.Row{row("a=1", 5)}
	var fifty, more []string
	for n := range 51 {
		more = append(more, id(n+10))
	}
	fifty = more[:50]
	for _, c := range []struct {
		what     string
		id       string
		from, to int64
		level    int
		sources  []string
		err      api.Errno
	}{
		{"plain", id(1), 0, 10, 1, nil, api.OK},
		{"level 9", id(1), 0, 10, 9, nil, api.OK},
		{"level 0", id(1), 0, 10, 0, nil, api.ErrArg},
		{"level 10", id(1), 0, 10, 10, nil, api.ErrArg},
		{"a level below 0", id(1), 0, 10, -1, nil, api.ErrArg},
		{"times up to 2^40", id(1), 0, 1 << 40, 1, nil, api.OK},
		{"times above 2^40", id(1), 0, 1<<40 + 1, 1, nil, api.ErrArg},
		{"all times", id(1), math.MinInt64, math.MaxInt64, 1, nil, api.ErrArg},
		{"times below 0", id(1), -1, 10, 1, nil, api.ErrArg},
		{"no name", "", 0, 10, 1, nil, api.ErrArg},
		{"a name of 15 bytes", id(1)[1:], 0, 10, 1, nil, api.ErrArg},
		{"a name of 17 bytes", id(1) + "0", 0, 10, 1, nil, api.ErrArg},
		{"a name with another byte", "i" + id(1)[1:], 0, 10, 1, nil, api.ErrArg},
		{"one source", id(1), 0, 10, 1, []string{id(2)}, api.OK},
		{"fifty sources", id(1), 0, 10, 1, fifty, api.OK},
		{"more sources", id(1), 0, 10, 1, more, api.ErrArg},
		{"itself", id(1), 0, 10, 1, []string{id(1)}, api.ErrArg},
		{"sources that fall", id(1), 0, 10, 1, []string{id(3), id(2)}, api.ErrArg},
		{"a source twice", id(1), 0, 10, 1, []string{id(2), id(2)}, api.ErrArg},
		{"a source that is no name", id(1), 0, 10, 1, []string{"x"}, api.ErrArg},
	} {
		f, err := Build(c.id, c.from, c.to, c.level, c.sources, table)
		if c.err != api.OK {
			refuses(t, c.what, f, err, c.err)
			continue
		}
		if err != api.OK || !same(f, spelt(t, c.id, c.from, c.to, c.level, c.sources, table)) {
			t.Errorf("%s: %+v, %d", c.what, f.Meta, err)
		}
	}
	// Without rows nothing but the meta tells that times may not be.
	for _, c := range [][2]int64{{5, 5}, {6, 5}, {-1, 5}, {0, 1<<40 + 1}, {math.MaxInt64, math.MinInt64}} {
		f, err := Build(id(1), c[0], c[1], 1, nil, nil)
		refuses(t, "times without rows", f, err, api.ErrArg)
	}
}

// P16.1: rows that no block may have.
func TestBuildErrors(t *testing.T) {
	labels := func(l ...label.Pair) merge.Row {
		return merge.Row{Labels: l, Samples: []api.Sample{{T: 5}}}
	}
	for _, c := range []struct {
		what  string
		table []merge.Row
	}{
		{"rows that fall", []merge.Row{row("b=1", 5), row("a=1", 5)}},
		{"a row twice", []merge.Row{row("a=1", 5), row("a=1", 6)}},
		{"times that fall", []merge.Row{row("a=1", 6, 5)}},
		{"a time twice", []merge.Row{row("a=1", 5, 5)}},
		{"times that fall in between", []merge.Row{row("a=1", 1, 8, 2, 9)}},
		{"a last row whose times fall", []merge.Row{row("a=1", 5), row("b=1", 5, 6, 4)}},
		{"a row without samples", []merge.Row{row("a=1")}},
		{"a second row without samples", []merge.Row{row("a=1", 5), row("b=1"), row("c=1", 5)}},
		{"no labels", []merge.Row{labels()}},
		{"a label without a name", []merge.Row{labels(label.Pair{Value: "1"})}},
		{"a label without a value", []merge.Row{labels(label.Pair{Name: "a"})}},
		{"labels that fall", []merge.Row{labels(label.Pair{Name: "b", Value: "1"}, label.Pair{Name: "a", Value: "1"})}},
		{"a second row of labels that may not be", []merge.Row{row("a=1", 5), labels(label.Pair{Name: "b-", Value: "1"})}},
		{"a time ahead of from", []merge.Row{row("a=1", 0, 5)}},
		{"a time at to", []merge.Row{row("a=1", 5, 10)}},
		{"a time behind to", []merge.Row{row("a=1", 5, 1000)}},
		{"a second row ahead of from", []merge.Row{row("a=1", 5), row("b=1", 0)}},
		{"a second row behind to", []merge.Row{row("a=1", 5), row("b=1", 10)}},
		{"a time below 0", []merge.Row{row("a=1", -5)}},
	} {
		f, err := Build(id(1), 1, 10, 1, nil, c.table)
		refuses(t, c.what, f, err, api.ErrArg)
	}
	for _, at := range []int64{math.MinInt64, -1, 1 << 40, 1<<40 + 1, math.MaxInt64 - 1} {
		f, err := Build(id(1), math.MinInt64, math.MaxInt64, 1, nil, []merge.Row{row("a=1", at)})
		refuses(t, "a time that no chunk has", f, err, api.ErrArg)
	}
}

// wide: a row of many samples of random values, and how many bytes its chunks have.
var wide = sync.OnceValues(func() (merge.Row, int) {
	r := rolls(5)
	x := merge.Row{Labels: set("a=1")}
	size := 0
	for at := range int64(120 * 900) {
		x.Samples = append(x.Samples, api.Sample{T: at, V: r.word()})
	}
	for part := range slices.Chunk(x.Samples, 120) {
		s, _ := xor.Of(part)
		size += len(record(4, s))
	}
	return x, size
})

// filled: a table whose chunks have just so many bytes: rows of 22 and 23 bytes behind one of many.
func filled(t *testing.T, size int) []merge.Row {
	t.Helper()
	first, used := wide()
	table := []merge.Row{first}
	left := size - used
	if left < 22*22 || left > 9000*22 {
		t.Fatalf("the test's own row: %d bytes left", left)
	}
	// A second sample of the same value, one behind the first one, needs the 23rd byte.
	for i := range left / 22 {
		x := merge.Row{Labels: set("n=" + strconv.Itoa(10000+i)), Samples: []api.Sample{{T: 5}}}
		if i < left%22 {
			x.Samples = append(x.Samples, api.Sample{T: 6})
		}
		table = append(table, x)
	}
	return table
}

// indexed: a table whose index has just so many bytes.
func indexed(t *testing.T, size int) []merge.Row {
	t.Helper()
	var table []merge.Row
	total := 1<<20 - 1<<18
	for n := 0; total > 0; n++ {
		r := merge.Row{Samples: []api.Sample{{T: 5}}}
		for i := range 6 {
			r.Labels = append(r.Labels, label.Pair{Name: string(rune('a' + i)), Value: "12345678901234" + strconv.Itoa(100000+n)})
		}
		table = append(table, r)
		total -= 140
	}
	left := size - len(spelt(t, id(1), 0, 10, 1, nil, table).Index)
	for i := range table {
		for j := range table[i].Labels {
			l := table[i].Labels
			more := min(20, left)
			l[j].Value += "xxxxxxxxxxxxxxxxxxxx"[:more]
			left -= more
		}
	}
	if left != 0 || len(table) > 10000 {
		t.Fatalf("the test's own rows: %d, %d bytes left", len(table), left)
	}
	return table
}

// P16.1: how great a block may be.
func TestBuildBig(t *testing.T) {
	f, err := Build(id(1), 0, 10, 1, nil, many(10001))
	refuses(t, "10001 rows", f, err, api.ErrBig)
	f = builds(t, "chunks of 2^20 bytes", 0, 1<<40, filled(t, 1<<20))
	if len(f.Chunks) != 1<<20 {
		t.Errorf("%d bytes", len(f.Chunks))
	}
	f, err = Build(id(1), 0, 1<<40, 1, nil, filled(t, 1<<20+1))
	refuses(t, "chunks of 2^20 + 1 bytes", f, err, api.ErrBig)
	f = builds(t, "an index of 2^20 bytes", 0, 10, indexed(t, 1<<20))
	if len(f.Index) != 1<<20 {
		t.Errorf("%d bytes", len(f.Index))
	}
	f, err = Build(id(1), 0, 10, 1, nil, indexed(t, 1<<20+1))
	refuses(t, "an index of 2^20 + 1 bytes", f, err, api.ErrBig)
	// A record that can't be read any more, too: its own bytes are above 2^20.
	f, err = Build(id(1), 0, 10, 1, nil, indexed(t, 1<<20+9))
	refuses(t, "an index of 2^20 + 9 bytes", f, err, api.ErrBig)
}

// K2: of several errors the one that the chapter names first.
func TestBuildFirstError(t *testing.T) {
	big := many(10001)
	f, err := Build("x", 0, 10, 0, nil, big)
	refuses(t, "too many rows, and no meta", f, err, api.ErrBig)
	f, err = Build("x", 0, 1<<40, 0, nil, filled(t, 1<<20+1))
	refuses(t, "too many bytes, and no meta", f, err, api.ErrBig)
	f, err = Build(id(1), 0, 1<<40+1, 1, nil, filled(t, 1<<20+1))
	refuses(t, "too many bytes, and times above 2^40", f, err, api.ErrBig)
	f, err = Build(id(1), 0, 5, 1, nil, big)
	refuses(t, "too many rows, and times behind to", f, err, api.ErrArg)
	last := slices.Clone(big)
	last[10000] = row("n=110000")
	f, err = Build(id(1), 0, 10, 1, nil, last)
	refuses(t, "too many rows, and one without samples", f, err, api.ErrArg)
	last[10000] = row("a=1", 5)
	f, err = Build(id(1), 0, 10, 1, nil, last)
	refuses(t, "too many rows, and one that falls", f, err, api.ErrArg)
	last[10000] = row("n=110000", 1<<40+1)
	f, err = Build(id(1), 0, 1<<41, 1, nil, last)
	refuses(t, "too many rows, and a time that no chunk has", f, err, api.ErrArg)
}

// K3: what is handed in stays, and what is answered shares nothing with it, nor with another answer.
func TestShared(t *testing.T) {
	table := []merge.Row{row("a=1,b=2", 3, 4, 5), row("b=1", 6)}
	sources := []string{id(3), id(4)}
	before, ids := clone(table), slices.Clone(sources)
	f, err := Build(id(1), 0, 10, 2, sources, table)
	if err != api.OK || !equal(table, before) || !slices.Equal(sources, ids) {
		t.Fatalf("%v, %v, %d", table, sources, err)
	}
	table[0].Labels[0].Value, table[0].Samples[0].V, sources[0] = "9", 99, id(9)
	if !same(f, spelt(t, id(1), 0, 10, 2, ids, before)) {
		t.Errorf("%+v", f.Meta)
	}
	first, _ := f.Table()
	entries, _ := Entries(f.Index)
	samples, _ := Chunks(f.Chunks[:entries[0].N])
	for _, r := range first {
		for i := range r.Labels {
			r.Labels[i] = label.Pair{}
		}
		clear(r.Samples)
		_ = append(r.Labels, label.Pair{Name: "y"})
		_ = append(r.Samples, api.Sample{T: -9})
	}
	clear(first)
	entries[0].Labels[0].Value = "9"
	_ = append(entries[0].Labels, label.Pair{Name: "y"})
	clear(samples)
	if l, err := Entries(f.Index); err != api.OK || l[0].Labels.String() != "a=1,b=2" || l[1].Labels.String() != "b=1" {
		t.Errorf("Entries: %v, %d", l, err)
	}
	if got, err := f.Table(); err != api.OK || !equal(got, before) {
		t.Errorf("Table: %v, %d", got, err)
	}
}

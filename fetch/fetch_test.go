package fetch

import (
	"math"
	"slices"
	"testing"

	"barograph/api"
	"barograph/block"
	"barograph/bucket"
	"barograph/frame"
	"barograph/ident"
	"barograph/label"
	"barograph/matcher"
	"barograph/merge"
	"barograph/meta"
	"barograph/xor"
)

// set: the labels of a text.
func set(s string) label.Set {
	l, _ := label.Parse(s)
	return l
}

// row: labels, and samples whose values are seven times their times.
func row(s string, times ...int64) merge.Row {
	r := merge.Row{Labels: set(s)}
	for _, at := range times {
		r.Samples = append(r.Samples, api.Sample{T: at, V: uint64(7 * at)})
	}
	return r
}

// asks: the matchers of a text.
func asks(s string) []matcher.Matcher {
	l, _ := matcher.Parse(s)
	return l
}

// equal: have two tables the same rows?
func equal(a, b []merge.Row) bool {
	return slices.EqualFunc(a, b, func(x, y merge.Row) bool {
		return slices.Equal(x.Labels, y.Labels) && slices.Equal(x.Samples, y.Samples)
	})
}

var id, _ = ident.Make(33, 1)

// built: the block of a table, of times ahead of 1000.
func built(t *testing.T, table ...merge.Row) block.Files {
	t.Helper()
	f, err := block.Build(id, 0, 1000, 1, nil, table)
	if err != api.OK {
		t.Fatalf("Build: %d", err)
	}
	return f
}

// put: a block's two files lie in a bucket.
func put(b *bucket.Bucket, f block.Files) {
	b.Put(id+"/index", f.Index, 0)
	b.Put(id+"/chunks", f.Chunks, 0)
}

// laid: a bucket in which a block lies.
func laid(f block.Files) *bucket.Bucket {
	b := bucket.New()
	put(b, f)
	return b
}

// three: a block's table.
func three() []merge.Row {
	return []merge.Row{row("a=1", 10, 20, 30), row("a=2", 50), row("b=1", 15, 25)}
}

// steps: do Steps end so, one behind the other?
func steps(t *testing.T, what string, f *Fetch, b *bucket.Bucket, want ...api.Errno) {
	t.Helper()
	for i, wanted := range want {
		if err := f.Step(b); err != wanted {
			t.Errorf("%s: Step %d: %d, not %d", what, i, err, wanted)
		}
	}
}

// has: has a fetch these rows, and is it done?
func has(t *testing.T, what string, f *Fetch, done bool, want ...merge.Row) {
	t.Helper()
	if got := f.Rows(); !equal(got, want) || f.Done() != done {
		t.Errorf("%s: %v, %v, not %v, %v", what, got, f.Done(), want, done)
	}
}

// P17.1, P17.3: the chapter's example.
func TestExample(t *testing.T) {
	file := built(t, row("a=1", 10), row("b=1", 20))
	f := New(file.Meta, 0, 1000, asks("b=1")...)
	steps(t, "two Steps", f, laid(file), api.OK, api.OK, api.ErrIdle)
	has(t, "the example", f, true, row("b=1", 20))
}

// P17.1: step by step; one call of the bucket each, and none when it is done.
func TestSteps(t *testing.T) {
	file := built(t, three()...)
	b := laid(file)
	f := New(file.Meta, 0, 1000)
	has(t, "New", f, false)
	for i, want := range [][]merge.Row{nil, three()[:1], three()[:2], three()} {
		b.Arm(1, false)
		steps(t, "a Step", f, b, api.OK)
		if _, err := b.Get(id + "/index"); err != api.ErrIO {
			t.Errorf("Step %d: not one call", i)
		}
		has(t, "so far", f, i == 3, want...)
	}
	b.Arm(0, false)
	steps(t, "done", f, b, api.ErrIdle, api.ErrIdle)
	if _, err := b.Get(id + "/index"); err != api.ErrIO {
		t.Error("a call, though it is done")
	}
	has(t, "done", f, true, three()...)
}

// P17.1: which entries are read: those that all matchers fit, and that have times between.
func TestAsked(t *testing.T) {
	file := built(t, three()...)
	for _, c := range []struct {
		what     string
		from, to int64
		match    string
		steps    int
		want     []merge.Row
	}{
		{"all", 0, 1000, "", 4, three()},
		{"all times that there are", math.MinInt64, math.MaxInt64, "", 4, three()},
		{"a value that begins in another way", 0, 1000, "a^3", 1, nil},
		{"one name's values", 0, 1000, "a@1|2", 3, three()[:2]},
		{"what hasn't the name", 0, 1000, "b=", 3, three()[:2]},
		{"two matchers", 0, 1000, "a!=2,b=", 2, three()[:1]},
		{"two that don't go together", 0, 1000, "a=1,b=1", 1, nil},
		{"none", 0, 1000, "c=1", 1, nil},
		{"up to a Min", 0, 10, "", 1, nil},
		{"to behind a Min", 0, 11, "", 2, []merge.Row{row("a=1", 10)}},
		{"from a Max", 30, 31, "", 2, []merge.Row{row("a=1", 30)}},
		{"from behind a Max", 31, 50, "", 1, nil},
		{"from the one time", 50, 51, "", 2, three()[1:2]},
		{"from behind the one time", 51, 1000, "", 1, nil},
		{"between samples", 21, 25, "", 3, nil},
		{"in the midst", 15, 25, "", 3, []merge.Row{row("a=1", 20), row("b=1", 15)}},
		{"in the midst, of one", 15, 25, "b^1", 2, []merge.Row{row("b=1", 15)}},
		{"ahead of all", -100, 0, "", 1, nil},
		{"behind all", 5000, 9000, "", 1, nil},
		// What is said of an entry's times is said of each of the two.
		{"no times", 20, 20, "", 3, nil},
		{"times that fall", 25, 15, "", 2, nil},
	} {
		f := New(file.Meta, c.from, c.to, asks(c.match)...)
		b := laid(file)
		for i := range c.steps {
			if f.Done() {
				t.Errorf("%s: done behind %d", c.what, i)
			}
			steps(t, c.what, f, b, api.OK)
		}
		steps(t, c.what, f, b, api.ErrIdle)
		has(t, c.what, f, true, c.want...)
	}
}

// P17.1: a block without rows is listed in one Step.
func TestEmpty(t *testing.T) {
	file := built(t)
	f := New(file.Meta, 0, 1000)
	has(t, "New", f, false)
	steps(t, "empty", f, laid(file), api.OK, api.ErrIdle)
	has(t, "empty", f, true)
}

// P17.1: a row of several chunks is read by one Step.
func TestManyChunks(t *testing.T) {
	var times []int64
	for i := range int64(500) {
		times = append(times, 2*i)
	}
	file := built(t, row("a=1", times...), row("b=1", 3))
	f := New(file.Meta, 100, 900, asks("a=1")...)
	steps(t, "many", f, laid(file), api.OK, api.OK, api.ErrIdle)
	has(t, "many", f, true, row("a=1", times[50:450]...))
}

// P17.1, K2: what stands in the way of the index; behind it all is as it was.
func TestIndexErrors(t *testing.T) {
	file := built(t, three()...)
	for _, c := range []struct {
		what string
		make func(b *bucket.Bucket)
		err  api.Errno
	}{
		{"a fault", func(b *bucket.Bucket) { b.Arm(0, false) }, api.ErrIO},
		{"a fault, done", func(b *bucket.Bucket) { b.Arm(0, true) }, api.ErrIO},
		{"a fault, and no index", func(b *bucket.Bucket) { b.Delete(id + "/index"); b.Arm(0, true) }, api.ErrIO},
		{"a fault, and another index", func(b *bucket.Bucket) { b.Put(id+"/index", "x", 0); b.Arm(0, true) }, api.ErrIO},
		{"no index", func(b *bucket.Bucket) { b.Delete(id + "/index") }, api.ErrStale},
		{"nothing at all", func(b *bucket.Bucket) { b.Delete(id + "/index"); b.Delete(id + "/chunks") }, api.ErrStale},
		{"a byte less", func(b *bucket.Bucket) { b.Put(id+"/index", file.Index[:len(file.Index)-1], 0) }, api.ErrSum},
		{"no bytes", func(b *bucket.Bucket) { b.Put(id+"/index", "", 0) }, api.ErrSum},
		{"another byte", func(b *bucket.Bucket) { b.Put(id+"/index", file.Index[:9]+"\x00"+file.Index[10:], 0) }, api.ErrSum},
		{"a byte ahead", func(b *bucket.Bucket) { b.Put(id+"/index", "\x05"+file.Index, 0) }, api.ErrSum},
		{"another block's", func(b *bucket.Bucket) { b.Put(id+"/index", built(t, row("c=1", 5)).Index, 0) }, api.ErrSum},
	} {
		b := laid(file)
		f := New(file.Meta, 0, 1000)
		c.make(b)
		steps(t, c.what, f, b, c.err)
		has(t, c.what, f, false)
		b.Clear()
		put(b, file)
		steps(t, c.what+", mended", f, b, api.OK, api.OK, api.OK, api.OK, api.ErrIdle)
		has(t, c.what+", mended", f, true, three()...)
	}
}

// P17.1: no more than the meta's bytes are read of the index; what is behind them isn't asked.
func TestMoreBytes(t *testing.T) {
	file := built(t, three()...)
	b := laid(file)
	b.Put(id+"/index", file.Index+"x", 0)
	b.Put(id+"/chunks", file.Chunks+"x", 0)
	f := New(file.Meta, 0, 1000)
	steps(t, "more bytes", f, b, api.OK, api.OK, api.OK, api.OK, api.ErrIdle)
	has(t, "more bytes", f, true, three()...)
}

// said: a meta that says of an index and of chunks what is so, whatever they are.
func said(index, chunks string) meta.Meta {
	return meta.Meta{ID: id, Max: 1000, Level: 1, Series: 1, Samples: 1, Files: []meta.File{meta.Of("chunks", chunks), meta.Of("index", index)}}
}

// P17.1, K2: bytes that are the meta's, and no index: Entries' error.
func TestNoIndex(t *testing.T) {
	e := block.Entry{Labels: set("a=1"), N: 22, Min: 5, Max: 6}
	fall := e
	fall.Min = 7
	big := e
	big.N = 1 << 21
	for _, index := range []string{"", "x", "\x05\x00xxxx", block.Index([]block.Entry{e, e}), block.Index([]block.Entry{fall}), block.Index([]block.Entry{big}), block.Index([]block.Entry{e}) + "x", built(t, three()...).Chunks} {
		b := bucket.New()
		b.Put(id+"/index", index, 0)
		f := New(said(index, ""), 0, 1000)
		_, want := block.Entries(index)
		if want == api.OK {
			t.Fatalf("the test's own index: %x", index)
		}
		steps(t, "no index", f, b, want, want)
		has(t, "no index", f, false)
	}
}

// P17.1, K2: what stands in the way of the chunks; behind it all is as it was.
func TestChunksErrors(t *testing.T) {
	file := built(t, three()...)
	first, second := 0, 0
	if l, err := block.Entries(file.Index); err == api.OK {
		first, second = l[1].From, l[2].From
	}
	chunks := func(s string) func(b *bucket.Bucket) {
		return func(b *bucket.Bucket) { b.Put(id+"/chunks", s, 0) }
	}
	for _, c := range []struct {
		what string
		make func(b *bucket.Bucket)
		err  api.Errno
	}{
		{"a fault", func(b *bucket.Bucket) { b.Arm(0, false) }, api.ErrIO},
		{"a fault, done", func(b *bucket.Bucket) { b.Arm(0, true) }, api.ErrIO},
		{"a fault, and no chunks", func(b *bucket.Bucket) { b.Delete(id + "/chunks"); b.Arm(0, true) }, api.ErrIO},
		{"no chunks", func(b *bucket.Bucket) { b.Delete(id + "/chunks") }, api.ErrStale},
		{"no bytes", chunks(""), api.ErrStale},
		{"a byte too few to begin", chunks(file.Chunks[:first-1]), api.ErrStale},
		{"just what is ahead", chunks(file.Chunks[:first]), api.ErrForm},
		{"a byte of them", chunks(file.Chunks[:first+1]), api.ErrSum},
		{"a byte less", chunks(file.Chunks[:second-1]), api.ErrSum},
		{"another byte", chunks(file.Chunks[:first+9] + "\xff" + file.Chunks[first+10:]), api.ErrSum},
		{"a byte ahead", chunks("\x04" + file.Chunks), api.ErrSum},
	} {
		b := laid(file)
		f := New(file.Meta, 0, 1000, asks("a@1|2")...)
		steps(t, c.what, f, b, api.OK, api.OK)
		c.make(b)
		steps(t, c.what, f, b, c.err)
		has(t, c.what, f, false, three()[:1]...)
		b.Clear()
		put(b, file)
		steps(t, c.what+", mended", f, b, api.OK, api.ErrIdle)
		has(t, c.what+", mended", f, true, three()[:2]...)
	}
	// Once it is listed, the index isn't asked any more.
	b := laid(file)
	f := New(file.Meta, 0, 1000)
	steps(t, "listed", f, b, api.OK)
	b.Delete(id + "/index")
	steps(t, "without an index", f, b, api.OK, api.OK, api.OK, api.ErrIdle)
	has(t, "without an index", f, true, three()...)
}

// chunk: the record of some samples, of a kind.
func chunk(kind byte, times ...int64) string {
	s, _ := xor.Of(row("", times...).Samples)
	return string(frame.Append(nil, frame.Rec{Kind: kind, Data: s}))
}

// P17.1, K2: chunks that aren't what their entry says.
func TestOtherChunks(t *testing.T) {
	one := chunk(4, 5, 7, 9)
	n := len(one)
	for _, c := range []struct {
		what      string
		chunks    string
		n         int
		low, high int64
		err       api.Errno
	}{
		{"as it should be", one, n, 5, 9, api.OK},
		{"two chunks", one + chunk(4, 11), n + len(chunk(4, 11)), 5, 11, api.OK},
		{"another Min", one, n, 4, 9, api.ErrForm},
		{"a Min behind", one, n, 6, 9, api.ErrForm},
		{"another Max", one, n, 5, 10, api.ErrForm},
		{"a Max ahead", one, n, 5, 8, api.ErrForm},
		{"a second chunk is wanting", one, n + 22, 5, 9, api.ErrForm},
		{"a byte is wanting", one, n + 1, 5, 9, api.ErrForm},
		{"a part of them", one, n - 1, 5, 9, api.ErrSum},
		{"a part of them, and another Min", one, n - 1, 1, 9, api.ErrSum},
		{"a second chunk that is cut", one + one[:9], n + 22, 5, 9, api.ErrSum},
		{"another kind", chunk(5, 5, 7, 9), n, 5, 9, api.ErrForm},
		{"chunks that fall", one + chunk(4, 9), n + len(chunk(4, 9)), 5, 9, api.ErrForm},
		{"a chunk without samples", chunk(4), len(chunk(4)), 5, 9, api.ErrForm},
	} {
		index := block.Index([]block.Entry{{Labels: set("a=1"), N: c.n, Min: c.low, Max: c.high}})
		b := bucket.New()
		b.Put(id+"/index", index, 0)
		b.Put(id+"/chunks", c.chunks, 0)
		f := New(said(index, c.chunks), 0, 1000)
		steps(t, c.what, f, b, api.OK, c.err)
		if c.err == api.OK {
			steps(t, c.what, f, b, api.ErrIdle)
			continue
		}
		steps(t, c.what+", again", f, b, c.err)
		has(t, c.what, f, false)
	}
}

// K3: what is handed in stays, and is nothing to the fetch any more; so is what it answered.
func TestShared(t *testing.T) {
	file := built(t, three()...)
	b := laid(file)
	match := []matcher.Matcher{{Kind: matcher.Among, Name: "a", Values: []string{"1", "2"}}, {Kind: matcher.IsNot, Name: "b", Values: []string{"7"}}}
	f := New(file.Meta, 0, 1000, match...)
	for i := range match {
		match[i].Values[0] = "x"
	}
	clear(match)
	files := slices.Clone(file.Meta.Files)
	clear(file.Meta.Files)
	steps(t, "listed", f, b, api.OK, api.OK)
	rows := f.Rows()
	for _, r := range rows {
		r.Labels[0] = label.Pair{Name: "z", Value: "z"}
		clear(r.Samples)
		_ = append(r.Samples, api.Sample{T: -9})
		_ = append(r.Labels, label.Pair{Name: "y"})
	}
	clear(rows)
	has(t, "behind an answer that was written to", f, false, three()[:1]...)
	steps(t, "done", f, b, api.OK, api.ErrIdle)
	has(t, "done", f, true, three()[:2]...)
	if files[1] != meta.Of("index", file.Index) {
		t.Error("the meta's files")
	}
	match = asks("a=1")
	New(built(t, three()...).Meta, 0, 1000, match...)
	if matcher.Format(match) != "a=1" {
		t.Errorf("%v", match)
	}
}

// K3: two fetches of one block have nothing to do with each other, and the bucket stays as it is.
func TestTwo(t *testing.T) {
	file := built(t, three()...)
	b := laid(file)
	f, g := New(file.Meta, 0, 1000), New(file.Meta, 20, 30, asks("a=1")...)
	steps(t, "the first", f, b, api.OK, api.OK)
	steps(t, "the second", g, b, api.OK, api.OK, api.ErrIdle)
	steps(t, "the first again", f, b, api.OK, api.OK, api.ErrIdle)
	has(t, "the first", f, true, three()...)
	has(t, "the second", g, true, row("a=1", 20))
	index, _ := b.Peek(id + "/index")
	chunks, _ := b.Peek(id + "/chunks")
	if len(b.Look("")) != 2 || index != file.Index || chunks != file.Chunks {
		t.Errorf("%v", b.Look(""))
	}
}

// K7: also of a meta that New needn't be asked of no call panics.
func TestOddMeta(t *testing.T) {
	b := laid(built(t, three()...))
	for _, m := range []meta.Meta{{}, {ID: id}, {ID: id, Files: []meta.File{{Name: "index", Size: -1}}}, {ID: "x", Files: []meta.File{{}, {}, {}}}} {
		f := New(m, 0, 1000, matcher.Matcher{})
		if err := f.Step(b); err == api.OK {
			t.Errorf("%+v: OK", m)
		}
		has(t, "an odd meta", f, false)
	}
}

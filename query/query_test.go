package query

import (
	"math"
	"testing"

	"barograph/api"
	"barograph/block"
	"barograph/bucket"
	"barograph/ident"
	"barograph/listing"
	"barograph/merge"
	"barograph/meta"
)

// id: the n-th block's name.
func id(n int) string {
	s, _ := ident.Make(33, n)
	return s
}

// of: the name of the n-th block's object.
func of(n int, part string) string {
	return ident.Object(id(n), part)
}

// built: the n-th block, of a table, made of some others.
func built(t *testing.T, n int, from, to int64, sources []string, table ...merge.Row) block.Files {
	t.Helper()
	f, err := block.Build(id(n), from, to, 1, sources, table)
	if err != api.OK {
		t.Fatalf("the test's own block: %d", err)
	}
	return f
}

// put: blocks lie in a bucket.
func put(b *bucket.Bucket, l ...block.Files) {
	for _, f := range l {
		b.Put(ident.Object(f.Meta.ID, ident.Chunks), f.Chunks, 0)
		b.Put(ident.Object(f.Meta.ID, ident.Index), f.Index, 0)
		b.Put(ident.Object(f.Meta.ID, ident.Meta), meta.Encode(f.Meta), 0)
	}
}

// know: a bucket has an index of a tick, of these blocks.
func know(b *bucket.Bucket, at int, l ...block.Files) {
	var metas []meta.Meta
	for _, f := range l {
		metas = append(metas, f.Meta)
	}
	b.Put(listing.Name, listing.Encode(listing.New(at, metas, nil)), at)
}

// first, second: blocks beside each other, the first one of two rows.
func first(t *testing.T) block.Files {
	t.Helper()
	return built(t, 1, 0, 10, nil, ofFirst()...)
}

func second(t *testing.T) block.Files {
	t.Helper()
	return built(t, 2, 10, 20, nil, ofSecond()...)
}

// two: a bucket of these, with an index of the tick 7.
func two(t *testing.T) *bucket.Bucket {
	t.Helper()
	b := bucket.New()
	put(b, first(t), second(t))
	know(b, 7, first(t), second(t))
	return b
}

// ofFirst, ofSecond, ofBoth: the rows of these.
func ofFirst() []merge.Row {
	return []merge.Row{row("a=1", 3, 4), row("b=1", 5)}
}

func ofSecond() []merge.Row {
	return []merge.Row{row("a=1", 15)}
}

func ofBoth() []merge.Row {
	return []merge.Row{row("a=1", 3, 4, 15), row("b=1", 5)}
}

// all: an ask for all that the tests' blocks have.
func all() Ask {
	return Ask{To: 1000}
}

// steps: do Steps end so, one behind the other?
func steps(t *testing.T, what string, q *Query, b *bucket.Bucket, now int, want ...api.Errno) {
	t.Helper()
	for i, wanted := range want {
		if err := q.Step(b, now); err != wanted {
			t.Errorf("%s: Step %d: %d, not %d", what, i, err, wanted)
		}
	}
}

// busy: is a query not at its end, with an index of this tick (-1: none)?
func busy(t *testing.T, what string, q *Query, at int) {
	t.Helper()
	l, err := q.Result()
	if q.Ended() || q.At() != at || l != nil || err != api.ErrBusy {
		t.Errorf("%s: %v, at %d, %v, %d; not busy, at %d", what, q.Ended(), q.At(), l, err, at)
	}
}

// failed: is a query at its end, with an error, and stays so, without any calls?
func failed(t *testing.T, what string, q *Query, at int, wanted api.Errno) {
	t.Helper()
	for range 2 {
		l, err := q.Result()
		if !q.Ended() || q.At() != at || l != nil || err != wanted {
			t.Errorf("%s: %v, at %d, %v, %d; not ended, at %d, %d", what, q.Ended(), q.At(), l, err, at, wanted)
		}
		still(t, what, q)
	}
}

// has: is a query at its end, with these rows, and stays so, without any calls?
func has(t *testing.T, what string, q *Query, at int, want ...merge.Row) {
	t.Helper()
	for range 2 {
		l, err := q.Result()
		if !q.Ended() || q.At() != at || err != api.OK || !equal(l, want) {
			t.Errorf("%s: %v, at %d, %v, %d; not ended, at %d, %v", what, q.Ended(), q.At(), l, err, at, want)
		}
		still(t, what, q)
	}
}

// still: does a query that has ended nothing more, at whatever tick?
func still(t *testing.T, what string, q *Query) {
	t.Helper()
	b := bucket.New()
	for _, now := range []int{0, 1 << 40} {
		calls(t, what+", ended", b, 0, api.ErrIdle, func() api.Errno { return q.Step(b, now) })
	}
}

// calls: does something end so, with so many calls of the bucket?
func calls(t *testing.T, what string, b *bucket.Bucket, n int, wanted api.Errno, act func() api.Errno) {
	t.Helper()
	const room = 5
	b.Arm(room, false)
	if err := act(); err != wanted {
		t.Errorf("%s: %d, not %d", what, err, wanted)
	}
	tries := 0
	for works := true; works && tries <= room; tries++ {
		works, _ = b.Try()
	}
	// Try works as often as there is room left, and fails once.
	if made := room + 1 - tries; made != n {
		t.Errorf("%s: %d calls, not %d", what, made, n)
	}
	b.Clear()
}

// ended: a query is stepped until it ends; how many Steps that took.
func ended(t *testing.T, q *Query, b *bucket.Bucket, now int) int {
	t.Helper()
	n := 0
	for !q.Ended() {
		q.Step(b, now)
		if n++; n > 1000 {
			t.Fatal("it doesn't end")
		}
	}
	return n
}

// P23.1: the chapter's example: no index, one table.
func TestExample(t *testing.T) {
	b := bucket.New()
	q := New(asks(0, 10, "a=1"), 5, nil, []merge.Row{row("a=1", 5, 10), row("b=1", 6)})
	busy(t, "New", q, -1)
	calls(t, "the one Step", b, 1, api.OK, func() api.Errno { return q.Step(b, 5) })
	has(t, "the example", q, 0, row("a=1", 5))
}

// P23.1: step by step, each of them one call of the bucket: the index, then of each block an index, and its rows.
func TestSteps(t *testing.T) {
	b := two(t)
	q := New(all(), 5, nil)
	at := -1
	for i, now := range []int{7, 12, 8, 11, 9, 12} {
		busy(t, "so far", q, at)
		calls(t, "a Step", b, 1, api.OK, func() api.Errno { return q.Step(b, now) })
		at = 7
		if q.Ended() != (i == 5) {
			t.Errorf("Step %d: ended: %v", i, q.Ended())
		}
	}
	has(t, "two blocks", q, 7, ofBoth()...)
}

// P23.1: what isn't asked for isn't read: blocks of other times, rows of other labels or times.
func TestAsked(t *testing.T) {
	b := two(t)
	for _, c := range []struct {
		what  string
		ask   Ask
		steps int
		want  []merge.Row
	}{
		{"all", all(), 6, ofBoth()},
		{"all times that there are", asks(math.MinInt64, math.MaxInt64, ""), 6, ofBoth()},
		{"one row's labels", asks(0, 100, "b=1"), 4, ofFirst()[1:]},
		{"no row's labels", asks(0, 100, "c=1"), 3, nil},
		{"up to the second block", asks(0, 10, ""), 4, ofFirst()},
		{"into the second block", asks(0, 11, ""), 5, ofFirst()},
		{"from the first block's end", asks(9, 20, "a=1"), 4, ofSecond()},
		{"from the second block on", asks(10, 20, ""), 3, ofSecond()},
		{"behind all", asks(20, 30, ""), 1, nil},
		{"ahead of all", asks(-10, 0, ""), 1, nil},
		{"between samples", asks(4, 15, "a=1"), 4, []merge.Row{row("a=1", 4)}},
		{"the zero ask", Ask{}, 1, nil},
		{"no times of the second block", asks(12, 12, ""), 2, nil},
		{"times that fall", asks(9, 3, ""), 2, nil},
	} {
		q := New(c.ask, 5, nil)
		if n := ended(t, q, b, 8); n != c.steps {
			t.Errorf("%s: %d Steps, not %d", c.what, n, c.steps)
		}
		has(t, c.what, q, 7, c.want...)
	}
}

// P23.1: only live blocks of the index are read; marks play no role.
func TestLive(t *testing.T) {
	b := bucket.New()
	x, y, z := first(t), second(t), built(t, 3, 0, 20, []string{id(1), id(2)}, ofBoth()...)
	put(b, z)
	for _, c := range []struct {
		what  string
		metas []meta.Meta
		marks map[string]int
		want  []merge.Row
		steps int
	}{
		{"of two one", []meta.Meta{x.Meta, y.Meta, z.Meta}, nil, ofBoth(), 4},
		{"of two one, marked", []meta.Meta{x.Meta, y.Meta, z.Meta}, map[string]int{id(1): 6, id(2): 7}, ofBoth(), 4},
		{"of two one, marked itself", []meta.Meta{x.Meta, y.Meta, z.Meta}, map[string]int{id(3): 2}, ofBoth(), 4},
		{"marked, and of none a source", []meta.Meta{z.Meta}, map[string]int{id(3): 0}, ofBoth(), 4},
		{"no blocks", nil, nil, nil, 1},
	} {
		b.Put(listing.Name, listing.Encode(listing.New(7, c.metas, c.marks)), 7)
		q := New(all(), 5, nil)
		if n := ended(t, q, b, 8); n != c.steps {
			t.Errorf("%s: %d Steps, not %d", c.what, n, c.steps)
		}
		has(t, c.what, q, 7, c.want...)
	}
}

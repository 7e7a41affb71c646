package sweep

import (
	"math"
	"slices"
	"testing"

	"barograph/api"
	"barograph/bucket"
	"barograph/ident"
	"barograph/meta"
)

// put: the n-th block's parts are put at a tick, its mark with the bytes of one of that tick.
func put(b *bucket.Bucket, n, at int, parts ...string) {
	for _, part := range parts {
		data := part
		if part == ident.Mark {
			data = meta.EncodeMark(id(n), at)
		}
		b.Put(of(n, part), data, at)
	}
}

// filled: a bucket with a block that was marked at 10, one that isn't marked, what is left of two others, put from 8 and from 14 on, and the index.
func filled() *bucket.Bucket {
	b := bucket.New()
	for n := range 2 {
		put(b, n+1, 3, ident.Chunks, ident.Index, ident.Meta)
	}
	put(b, 1, 10, ident.Mark)
	put(b, 3, 8, ident.Chunks)
	put(b, 3, 12, ident.Index)
	put(b, 4, 14, ident.Chunks)
	b.Put("index", "?", 0)
	return b
}

// gone: what of it is deleted when a round begins at 16, in that order.
func goneAt16() []string {
	return append(allOf(1), of(3, ident.Index), of(3, ident.Chunks))
}

// looks: how many Steps its scan takes: a List, two metas, a mark.
const looks = 4

// names: those of a bucket's objects, rising.
func names(b *bucket.Bucket) []string {
	var l []string
	for _, o := range b.Look("") {
		l = append(l, o.Name)
	}
	return l
}

// less: of some names those that aren't among others, in their order.
func less(l, others []string) []string {
	return slices.DeleteFunc(slices.Clone(l), func(name string) bool { return slices.Contains(others, name) })
}

// ends: did a call end so?
func ends(t *testing.T, what string, got, wanted api.Errno) {
	t.Helper()
	if got != wanted {
		t.Errorf("%s: %d, not %d", what, got, wanted)
	}
}

// calls: does something end so, with so many calls of the bucket?
func calls(t *testing.T, what string, b *bucket.Bucket, n int, wanted api.Errno, act func() api.Errno) {
	t.Helper()
	const room = 5
	b.Arm(room, false)
	ends(t, what, act(), wanted)
	tries := 0
	for works := true; works && tries <= room; tries++ {
		works, _ = b.Try()
	}
	// Try works as often as there is room left, and fails once.
	if made := room + 1 - tries; made != n {
		t.Errorf("%s: %d calls, not %d", what, made, n)
	}
	b.Clear()
}

// is: is a sweeper done, and has it deleted so many; has the bucket these objects?
func is(t *testing.T, what string, s *Sweeper, b *bucket.Bucket, done bool, gone int, wanted []string) {
	t.Helper()
	if s.Done() != done || s.Gone() != gone {
		t.Errorf("%s: done %v, %d gone, not %v, %d", what, s.Done(), s.Gone(), done, gone)
	}
	if l := names(b); !slices.Equal(l, wanted) {
		t.Errorf("%s: %q, not %q", what, l, wanted)
	}
}

// steps: so many Steps at a tick, each OK, one call of the bucket.
func steps(t *testing.T, s *Sweeper, b *bucket.Bucket, n, now int) {
	t.Helper()
	for range n {
		calls(t, "a Step", b, 1, api.OK, func() api.Errno { return s.Step(b, now) })
	}
}

// after: a sweeper that has done so many Steps at 16, and its bucket.
func after(t *testing.T, n int) (*Sweeper, *bucket.Bucket) {
	t.Helper()
	s, b := New(plain()), filled()
	steps(t, s, b, n, 16)
	return s, b
}

// round: a round of that tick is gone through to its end; how many Steps that takes.
func round(t *testing.T, s *Sweeper, b *bucket.Bucket, now int) int {
	t.Helper()
	n := 0
	for ; !s.Done(); n++ {
		if n > 1000 {
			t.Fatal("it doesn't end")
		}
		ends(t, "a Step", s.Step(b, now), api.OK)
	}
	ends(t, "done", s.Step(b, now), api.ErrIdle)
	return n
}

// P22.2: the chapter's example.
func TestExample(t *testing.T) {
	for now := 3; now < 12; now++ {
		b := bucket.New()
		put(b, 1, 1, ident.Chunks, ident.Index, ident.Meta)
		put(b, 1, 3, ident.Mark)
		round(t, New(Config{Delay: 5, Grace: 100}), b, now)
		if gone := len(b.Look("")) == 0; gone != (now >= 9) {
			t.Errorf("at %d: %q", now, names(b))
		}
	}
}

// P22.2, P22.3: a scan's Steps, then a Delete each, of one victim behind the other; then it is done, and nothing is called.
func TestSteps(t *testing.T) {
	s, b := New(plain()), filled()
	left := names(b)
	is(t, "New", s, b, false, 0, left)
	for range looks {
		calls(t, "the scan", b, 1, api.OK, func() api.Errno { return s.Step(b, 16) })
		is(t, "the scan", s, b, false, 0, left)
	}
	for i, name := range goneAt16() {
		left = less(left, []string{name})
		calls(t, "Delete "+name, b, 1, api.OK, func() api.Errno { return s.Step(b, 17+i) })
		is(t, "Delete "+name, s, b, i == len(goneAt16())-1, i+1, left)
	}
	for _, now := range []int{0, 16, 99, math.MaxInt} {
		calls(t, "done", b, 0, api.ErrIdle, func() api.Errno { return s.Step(b, now) })
		is(t, "done", s, b, true, len(goneAt16()), left)
	}
}

// P22.1: where there are no victims the round is at its end with its scan.
func TestNothingToDelete(t *testing.T) {
	for what, c := range map[string]struct {
		fill  func(b *bucket.Bucket)
		steps int
	}{
		"no objects":    {func(b *bucket.Bucket) {}, 1},
		"other objects": {func(b *bucket.Bucket) { b.Put("index", "x", 0); b.Put("meta", "x", 0) }, 1},
		"young ones":    {func(b *bucket.Bucket) { put(b, 1, 9, ident.Chunks, ident.Index) }, 1},
		"a block":       {func(b *bucket.Bucket) { put(b, 1, 0, ident.Chunks, ident.Index, ident.Meta) }, 2},
		"marked":        {func(b *bucket.Bucket) { put(b, 1, 11, ident.Chunks, ident.Index, ident.Meta, ident.Mark) }, 3},
	} {
		s, b := New(plain()), bucket.New()
		c.fill(b)
		was := b.Look("")
		if n := round(t, s, b, 16); n != c.steps || s.Gone() != 0 {
			t.Errorf("%s: %d Steps, %d gone", what, n, s.Gone())
		}
		if l := b.Look(""); !slices.Equal(l, was) {
			t.Errorf("%s: %v, not %v", what, l, was)
		}
	}
}

// P22.2: victims are those of the tick at which the scan began, whenever its other Steps, and the Deletes, are done.
func TestAsOfTheScan(t *testing.T) {
	for at := 14; at <= 22; at++ {
		s, b := New(plain()), filled()
		steps(t, s, b, 1, at)
		want := less(names(b), Victims(plain(), at, b.Look(""), map[string]int{id(1): 10}))
		for n := 0; !s.Done() && n < 20; n++ {
			now := at + 3
			if n >= looks-1 {
				now = at + 100
			}
			ends(t, "a Step", s.Step(b, now), api.OK)
		}
		is(t, "as of the scan", s, b, true, len(filled().Look(""))-len(want), want)
		if at == 14 && s.Gone() > 0 || at == 15 && s.Gone() > 0 || at == 16 && s.Gone() != 6 || at == 22 && s.Gone() != 7 {
			t.Errorf("at %d: %d gone", at, s.Gone())
		}
	}
}

// A scan that isn't done, and began more than Patience ago, is too old: nothing is called, and a new round begins, that hasn't begun.
func TestStale(t *testing.T) {
	for n := 1; n < looks; n++ {
		for _, now := range []int{20, 21, 1 << 40, math.MaxInt} {
			s, b := after(t, n)
			was := names(b)
			calls(t, "too old", b, 0, api.ErrStale, func() api.Errno { return s.Step(b, now) })
			is(t, "too old", s, b, false, 0, was)
			// At any tick: it hasn't begun; and of that tick.
			if n := round(t, s, b, 15); n != looks || s.Gone() != 0 {
				t.Errorf("anew: %d Steps, %d gone", n, s.Gone())
			}
		}
		for _, now := range []int{19, 18, 16, 15, 0} {
			s, b := after(t, n)
			steps(t, s, b, 1, now)
		}
	}
	for _, cfg := range []Config{{Delay: 5, Grace: 7}, {Delay: 5, Grace: 7, Patience: 1}, {Delay: 5, Grace: 7, Patience: 50}} {
		s, b := New(cfg), filled()
		steps(t, s, b, 1, 16)
		steps(t, s, b, 1, 16+cfg.Patience)
		ends(t, "too old", s.Step(b, 17+cfg.Patience), api.ErrStale)
		steps(t, s, b, looks, 90)
		is(t, "anew", s, b, false, 0, names(filled()))
	}
}

// Behind the scan nothing is too old.
func TestDeletesAreNeverStale(t *testing.T) {
	for n := looks; n < looks+6; n++ {
		s, b := after(t, n)
		steps(t, s, b, looks+6-n, math.MaxInt)
		is(t, "long behind", s, b, true, 6, less(names(filled()), goneAt16()))
	}
	// Also where the List is all of it.
	s, b := New(plain()), bucket.New()
	put(b, 1, 0, ident.Chunks)
	steps(t, s, b, 1, 8)
	steps(t, s, b, 1, 1000)
	is(t, "a List alone", s, b, true, 1, nil)
}

// Whichever call of the scan fails, done or not, nothing has changed; a List that fails is no beginning.
func TestScanFails(t *testing.T) {
	s, b := New(plain()), filled()
	for now := range 5 {
		b.Arm(0, now%2 == 0)
		ends(t, "List", s.Step(b, 10*now), api.ErrIO)
	}
	for n := range looks {
		steps(t, s, b, 1, 16)
		for _, done := range []bool{true, false} {
			b.Arm(0, done)
			if n < looks-1 {
				ends(t, "fails", s.Step(b, 19), api.ErrIO)
			}
			is(t, "fails", s, b, false, 0, names(filled()))
			b.Clear()
		}
	}
	if n := round(t, s, b, 90); n != 6 {
		t.Errorf("%d Steps", n)
	}
	is(t, "done", s, b, true, 6, less(names(filled()), goneAt16()))
}

// P22.2, P22.3: a Delete that fails, done or not, is done again by the next Step; what comes behind waits; it counts once.
func TestDeleteFails(t *testing.T) {
	for _, done := range []bool{false, true} {
		s, b := after(t, looks)
		left := names(b)
		for i, name := range goneAt16() {
			for range 3 {
				b.Arm(0, done)
				ends(t, "fails", s.Step(b, 17), api.ErrIO)
				if done {
					left = less(left, []string{name})
				}
				is(t, "fails", s, b, false, i, left)
			}
			left = less(left, []string{name})
			steps(t, s, b, 1, 17)
			is(t, "again", s, b, i == 5, i+1, left)
		}
	}
}

// Again: a new round, wherever the one ahead is; what that was at is left as it is.
func TestAgain(t *testing.T) {
	for n := range looks + 7 {
		s, b := after(t, n)
		left, gone := names(b), max(n-looks, 0)
		is(t, "ahead", s, b, n == looks+6, gone, left)
		s.Again()
		is(t, "Again", s, b, false, gone, left)
		// Of a tick at which nothing is a victim: what was one isn't any more.
		round(t, s, b, 8)
		is(t, "a round of 8", s, b, true, gone, left)
		s.Again()
		round(t, s, b, 16)
		is(t, "a round of 16", s, b, true, 6, less(names(filled()), goneAt16()))
		s.Again()
		round(t, s, b, 22)
		is(t, "a round of 22", s, b, true, 7, []string{of(2, ident.Chunks), of(2, ident.Index), of(2, ident.Meta), "index"})
		s.Again()
		round(t, s, b, 1<<40)
		is(t, "a last round", s, b, true, 7, []string{of(2, ident.Chunks), of(2, ident.Index), of(2, ident.Meta), "index"})
	}
}

// A mark counts, if its bytes are one of its block; whether its meta is there, or says anything, plays no part.
func TestMarks(t *testing.T) {
	for _, c := range []struct {
		what, mark string
		counts     bool
	}{
		{"of its block", meta.EncodeMark(id(1), 10), true},
		{"of its block, at 0", meta.EncodeMark(id(1), 0), true},
		{"of another block", meta.EncodeMark(id(2), 0), false},
		{"no bytes", "", false},
		{"a byte more", meta.EncodeMark(id(1), 10) + "x", false},
		{"a byte less", meta.EncodeMark(id(1), 10)[1:], false},
		{"a text", "10", false},
	} {
		for _, said := range []string{"", "x"} {
			b := bucket.New()
			put(b, 1, 16, ident.Chunks, ident.Index)
			b.Put(of(1, ident.Mark), c.mark, 16)
			if said != "" {
				b.Put(of(1, ident.Meta), said, 16)
			}
			round(t, New(plain()), b, 16)
			if gone := len(b.Look("")) == 0; gone != c.counts {
				t.Errorf("%s: %q", c.what, names(b))
			}
			// A mark that doesn't count makes no block: what has no meta goes by Grace.
			round(t, New(plain()), b, 24)
			if gone := len(b.Look("")) == 0; gone != (c.counts || said == "") {
				t.Errorf("%s, later: %q", c.what, names(b))
			}
		}
	}
}

// P22.2: the mark's own tick counts, not when it was put.
func TestMarkSaysWhen(t *testing.T) {
	b := bucket.New()
	put(b, 1, 0, ident.Chunks, ident.Index, ident.Meta)
	b.Put(of(1, ident.Mark), meta.EncodeMark(id(1), 11), 0)
	put(b, 2, 0, ident.Chunks, ident.Index, ident.Meta)
	b.Put(of(2, ident.Mark), meta.EncodeMark(id(2), 10), 16)
	round(t, New(plain()), b, 16)
	if l := names(b); !slices.Equal(l, []string{of(1, ident.Chunks), of(1, ident.Index), of(1, ident.Mark), of(1, ident.Meta)}) {
		t.Errorf("%q", l)
	}
}

// P22.2: objects are those of the List, marks those that were got behind it.
func TestChangedBetween(t *testing.T) {
	for _, c := range []struct {
		what   string
		change func(b *bucket.Bucket)
		want   []string // of the first block's
	}{
		{"nothing", func(b *bucket.Bucket) {}, nil},
		{"the mark is gone", func(b *bucket.Bucket) { b.Delete(of(1, ident.Mark)) }, []string{of(1, ident.Chunks), of(1, ident.Index), of(1, ident.Meta)}},
		{"the mark is a later one", func(b *bucket.Bucket) { put(b, 1, 11, ident.Mark) }, []string{of(1, ident.Chunks), of(1, ident.Index), of(1, ident.Mark), of(1, ident.Meta)}},
		{"the meta is gone", func(b *bucket.Bucket) { b.Delete(of(1, ident.Meta)) }, nil},
		{"meta and mark are gone", func(b *bucket.Bucket) { b.Delete(of(1, ident.Meta)); b.Delete(of(1, ident.Mark)) }, []string{of(1, ident.Chunks), of(1, ident.Index)}},
	} {
		s, b := after(t, 1)
		c.change(b)
		for !s.Done() {
			ends(t, c.what, s.Step(b, 16), api.OK)
		}
		if l := less(names(b), less(names(filled()), allOf(1))); !slices.Equal(l, c.want) {
			t.Errorf("%s: %q, not %q", c.what, l, c.want)
		}
	}
	// What comes behind the List isn't deleted.
	s, b := after(t, 1)
	put(b, 5, 0, ident.Chunks, ident.Index, ident.Mark)
	put(b, 2, 0, ident.Mark)
	for !s.Done() {
		ends(t, "what has come", s.Step(b, 16), api.OK)
	}
	if l := less(names(b), names(filled())); len(l) != 4 {
		t.Errorf("what has come: %q", l)
	}
	for _, part := range []string{ident.Chunks, ident.Index, ident.Meta} {
		if _, there := b.Peek(of(2, part)); !there {
			t.Errorf("marked behind the List: no %s", part)
		}
	}
}

// P22.2: an object that is gone already when it is to be deleted is deleted as any other one.
func TestGoneAlready(t *testing.T) {
	s, b := after(t, looks)
	for _, name := range goneAt16() {
		b.Delete(name)
	}
	steps(t, s, b, 6, 16)
	is(t, "gone already", s, b, true, 6, less(names(filled()), goneAt16()))
}

// K3: two sweepers have nothing to do with each other; each Step calls the bucket that it is handed.
func TestTwo(t *testing.T) {
	x, b := after(t, looks)
	y, other := New(Config{}), bucket.New()
	is(t, "the second", y, other, false, 0, nil)
	steps(t, y, other, 1, 99)
	steps(t, x, filled(), 5, 16)
	is(t, "the first", x, b, false, 5, names(filled()))
	is(t, "the second", y, other, true, 0, nil)
}

// K1, K7: also of numbers that needn't be asked for no call panics, and each round ends.
func TestOddNumbers(t *testing.T) {
	odd := []int{math.MinInt, -1, 0, 1, math.MaxInt}
	for _, x := range odd {
		for _, now := range odd {
			s, b := New(Config{Delay: x, Grace: x, Patience: x}), filled()
			for range 30 {
				s.Step(b, now)
				s.Step(b, -now)
			}
			if s.Gone() > 30 {
				t.Errorf("%d gone", s.Gone())
			}
		}
	}
}

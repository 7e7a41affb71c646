package compact

import (
	"math"
	"slices"
	"testing"

	"barograph/api"
	"barograph/bucket"
	"barograph/ident"
	"barograph/listing"
	"barograph/meta"
)

// anew: has a new round begun, that comes to rest with the third block made, and the first two marked?
func anew(t *testing.T, what string, c *Compactor, b *bucket.Bucket, now int) {
	t.Helper()
	if c.Stage() != Scans {
		t.Fatalf("%s: stage %d", what, c.Stage())
	}
	rests(t, c, b, now, &namer{tick: now, seq: 700})
	marks := 0
	for _, n := range []int{1, 2} {
		data, _ := b.Peek(of(n, ident.Mark))
		if name, _, err := meta.DecodeMark(data); err == api.OK && name == id(n) {
			marks++
		}
	}
	f, made := third(t), 0
	for _, o := range b.Look("") {
		name, part, _ := ident.Split(o.Name)
		said, _ := b.Peek(o.Name)
		m, err := meta.Decode(said)
		if part != ident.Meta || err != api.OK || !m.Lists(id(1)) || !m.Lists(id(2)) {
			continue
		}
		made++
		chunks, _ := b.Peek(ident.Object(name, ident.Chunks))
		index, _ := b.Peek(ident.Object(name, ident.Index))
		if chunks != f.Chunks || index != f.Index {
			t.Errorf("%s: %s: %q, %q", what, name, chunks, index)
		}
	}
	if marks != 2 || made != 1 {
		t.Errorf("%s: %d marks, %d blocks", what, marks, made)
	}
}

// P21.1: whichever call fails, done or not, nothing has changed: it is done again by the next Step.
func TestFails(t *testing.T) {
	c, b, name := New(fits()), two(t), names()
	stage := Scans
	for _, s := range toThird() {
		for _, done := range []bool{false, true, false, true} {
			if s.calls == 0 {
				break
			}
			b.Arm(0, done)
			ends(t, s.what, c.Step(b, 40, name.next), api.ErrIO)
			if c.Stage() != stage {
				t.Errorf("%s: stage %d, not %d", s.what, c.Stage(), stage)
			}
		}
		goes(t, c, b, 40, name, s)
		stage = s.stage
	}
	if name.asked != 1 {
		t.Errorf("%d names", name.asked)
	}
	if n := rests(t, c, b, 40, name); n != 6 {
		t.Errorf("%d Steps more", n)
	}
	other := two(t)
	rests(t, New(fits()), other, 40, names())
	has(t, "as if nothing had failed", b, objects(other)...)
}

// P21.1, P21.2: what is put and what isn't, where a Put fails: the bytes are put again, at the later Step's tick; what comes behind waits.
func TestPutFails(t *testing.T) {
	f := third(t)
	want := func(at int) []object {
		return []object{
			{ident.Object(f.Meta.ID, ident.Chunks), f.Chunks, at}, {ident.Object(f.Meta.ID, ident.Index), f.Index, at},
			{ident.Object(f.Meta.ID, ident.Meta), meta.Encode(f.Meta), at},
			{of(1, ident.Mark), meta.EncodeMark(id(1), at), at}, {of(2, ident.Mark), meta.EncodeMark(id(2), at), at},
		}
	}
	for n := putStep; n < allSteps; n++ {
		for _, done := range []bool{false, true} {
			c, b := after(t, n)
			there := append(objects(two(t)), want(40)[:n-putStep]...)
			b.Arm(0, done)
			ends(t, "a Put", c.Step(b, 42, names().next), api.ErrIO)
			if done {
				has(t, "put, but failed", b, append(slices.Clone(there), want(42)[n-putStep])...)
			} else {
				has(t, "not put", b, slices.Clone(there)...)
			}
			goes(t, c, b, 44, names(), toThird()[n])
			has(t, "again", b, append(there, want(44)[n-putStep])...)
		}
	}
}

// In Scans and Reads what is looked at is too old more than Patience behind the scan's beginning, at whichever Step; the bucket isn't called, nor is a name asked for; a new round begins.
func TestStale(t *testing.T) {
	for n := 1; n <= buildStep; n++ {
		for _, now := range []int{46, 47, 48, 1 << 40, math.MaxInt} {
			c, b := after(t, n)
			was, name := objects(b), names()
			calls(t, "too old", b, 0, api.ErrStale, func() api.Errno { return c.Step(b, now, name.next) })
			if name.asked > 0 {
				t.Error("a name")
			}
			has(t, "too old", b, was...)
			anew(t, "too old", c, b, 100)
		}
		for _, now := range []int{45, 44, 40, 39, 0} {
			c, b := after(t, n)
			goes(t, c, b, now, names(), toThird()[n])
		}
	}
}

// The scan counts from when it began: a List that fails is no beginning, nor are the Steps behind it.
func TestStaleFromWhenOn(t *testing.T) {
	c, b, name := New(fits()), two(t), names()
	for now := range 5 {
		b.Arm(0, true)
		ends(t, "List", c.Step(b, 10*now, name.next), api.ErrIO)
	}
	goes(t, c, b, 90, name, toThird()[0])
	goes(t, c, b, 93, name, toThird()[1])
	goes(t, c, b, 94, name, toThird()[2])
	b.Arm(0, true)
	ends(t, "an index", c.Step(b, 95, name.next), api.ErrIO)
	goes(t, c, b, 95, name, toThird()[3])
	b.Arm(0, true)
	ends(t, "too old", c.Step(b, 96, name.next), api.ErrStale)
	b.Clear()
	// Too old once: the new round hasn't begun, and is never too old then.
	goes(t, c, b, 500, name, toThird()[:3]...)
}

// In Puts it is the upload that gets too old, from Grace behind its name's tick on; how long ago the scan was plays no part.
func TestStalePuts(t *testing.T) {
	for n := putStep; n < markStep; n++ {
		c, b := after(t, n)
		goes(t, c, b, 48, names(), toThird()[n])
		for _, now := range []int{49, 50, 1 << 40} {
			c, b := after(t, n)
			was := objects(b)
			calls(t, "too old", b, 0, api.ErrStale, func() api.Errno { return c.Step(b, now, names().next) })
			has(t, "too old", b, was...)
			anew(t, "too old", c, b, 100)
			// What was put so far stays as it is: another block was made.
			for _, o := range was {
				if data, _ := b.Peek(o.name); data != o.data {
					t.Errorf("%s: %q, not %q", o.name, data, o.data)
				}
			}
		}
	}
}

// P21.1, P21.2: where the meta was put, though its Put failed, and the upload is too old then, the block is there: the new round marks its sources, and makes no other one.
func TestMetaPutButStale(t *testing.T) {
	c, b := after(t, markStep-1)
	b.Arm(0, true)
	ends(t, "the meta", c.Step(b, 48, names().next), api.ErrIO)
	ends(t, "too old", c.Step(b, 49, names().next), api.ErrStale)
	unmarked(t, "too old", b, id(1))
	anew(t, "too old", c, b, 50)
	marked(t, "anew", b, id(1), 50)
	holds(t, "anew", b, third(t))
}

// In Marks patience counts from the end of the upload.
func TestStaleMarks(t *testing.T) {
	at48 := func(n int) (*Compactor, *bucket.Bucket) {
		c, b := after(t, markStep-1)
		goes(t, c, b, 48, names(), toThird()[markStep-1:n]...)
		return c, b
	}
	for n := markStep; n < allSteps; n++ {
		for _, now := range []int{53, 52, 48, 0} {
			c, b := at48(n)
			goes(t, c, b, now, names(), toThird()[n])
			marked(t, "not too old", b, id(n-markStep+1), now)
		}
		for _, now := range []int{54, 55, math.MaxInt} {
			c, b := at48(n)
			was := objects(b)
			calls(t, "too old", b, 0, api.ErrStale, func() api.Errno { return c.Step(b, now, names().next) })
			has(t, "too old", b, was...)
			anew(t, "too old", c, b, 100)
			marked(t, "anew", b, id(2), 100)
		}
	}
}

// Where a listing says what is to be marked, patience counts from the scan's beginning.
func TestStaleMarksOfListing(t *testing.T) {
	at := func(n int) (*Compactor, *bucket.Bucket) {
		c, b := New(fits()), of1To3(t)
		steps := []step{{"List", 1, Scans}, {"1", 1, Scans}, {"2", 1, Scans}, {"3", 1, Marks}, {"mark 1", 1, Marks}, {"mark 2", 1, Scans}}
		for i, s := range steps[:n] {
			goes(t, c, b, 40+min(i, 3), names(), s)
		}
		return c, b
	}
	for n := 4; n < 6; n++ {
		c, b := at(n)
		ends(t, "not too old", c.Step(b, 45, names().next), api.OK)
		marked(t, "not too old", b, id(n-3), 45)
		for _, now := range []int{46, 47, 1 << 40} {
			c, b := at(n)
			calls(t, "too old", b, 0, api.ErrStale, func() api.Errno { return c.Step(b, now, names().next) })
			unmarked(t, "too old", b, id(n-3))
			anew(t, "too old", c, b, 100)
			marked(t, "anew", b, id(2), 100)
		}
	}
}

// Patience, Grace: as they are handed in.
func TestConfigs(t *testing.T) {
	for _, cfg := range []Config{{10, 1, 1}, {10, 1, 100}, {10, 100, 1}, {10, 7, 3}, {10, 1 << 40, 1 << 40}} {
		for _, n := range []int{1, 3, buildStep, markStep} {
			c, b := New(cfg), two(t)
			goes(t, c, b, 40, names(), toThird()[:n]...)
			ends(t, "too old", c.Step(b, 41+cfg.Patience, names().next), api.ErrStale)
			c, b = New(cfg), two(t)
			goes(t, c, b, 40, names(), toThird()[:n]...)
			goes(t, c, b, 40+cfg.Patience, names(), toThird()[n])
		}
		c, b := New(cfg), two(t)
		goes(t, c, b, 40, names(), toThird()[:putStep]...)
		ends(t, "too old", c.Step(b, 40+cfg.Grace, names().next), api.ErrStale)
		c, b = New(cfg), two(t)
		goes(t, c, b, 40, names(), toThird()[:putStep]...)
		goes(t, c, b, 39+cfg.Grace, names(), toThird()[putStep])
	}
}

// A name that isn't had: with ErrIO, ErrFull (and ErrIdle) it is asked for again by the next Step; with any other error a new round begins. What is told beside an error is no name.
func TestNameErrors(t *testing.T) {
	for err := api.Errno(-2); err < 30; err++ {
		if err == api.OK {
			continue
		}
		c, b := after(t, buildStep)
		was, asked := objects(b), 0
		fails := func() (string, api.Errno) {
			asked++
			return third(t).Meta.ID, err
		}
		calls(t, "no name", b, 0, err, func() api.Errno { return c.Step(b, 41, fails) })
		if asked != 1 {
			t.Errorf("%d: %d names", err, asked)
		}
		has(t, "no name", b, was...)
		if err != api.ErrIO && err != api.ErrFull && err != api.ErrIdle {
			anew(t, "no name", c, b, 42)
			continue
		}
		if c.Stage() != Reads {
			t.Errorf("%d: stage %d", err, c.Stage())
		}
		ends(t, "no name again", c.Step(b, 42, fails), err)
		goes(t, c, b, 43, names(), toThird()[buildStep:]...)
	}
}

// What is no name, or one of a source: ErrArg, and nothing is put.
func TestWrongNames(t *testing.T) {
	for _, name := range []string{"", "x", id(1), id(2), id(7)[1:], id(7) + "0", "i" + id(7)[1:], listing.Name, of(7, ident.Meta)} {
		c, b := after(t, buildStep)
		was := objects(b)
		calls(t, name, b, 0, api.ErrArg, func() api.Errno {
			return c.Step(b, 40, func() (string, api.Errno) { return name, api.OK })
		})
		has(t, name, b, was...)
		anew(t, name, c, b, 40)
	}
}

// K7: a function that panics has no name; Step doesn't panic.
func TestNamePanics(t *testing.T) {
	c, b := after(t, buildStep)
	was := objects(b)
	calls(t, "it panics", b, 0, api.ErrArg, func() api.Errno {
		return c.Step(b, 40, func() (string, api.Errno) { panic("x") })
	})
	has(t, "it panics", b, was...)
	anew(t, "it panics", c, b, 40)
}

// A name that is too old already: the block is built, but nothing of it is put.
func TestOldName(t *testing.T) {
	c, b := after(t, buildStep)
	was := objects(b)
	goes(t, c, b, 43, &namer{tick: 34, seq: 7}, toThird()[buildStep])
	calls(t, "too old", b, 0, api.ErrStale, func() api.Errno { return c.Step(b, 43, names().next) })
	has(t, "too old", b, was...)
	anew(t, "too old", c, b, 44)
}

// P21.1: a block that can't be read whole is made one with none, and marked by none: the error of its fetch is answered, and a new round begins.
func TestReadErrors(t *testing.T) {
	f := first(t)
	for _, c := range []struct {
		what string
		hurt func(b *bucket.Bucket)
		ok   int // how many Steps are OK yet
		err  api.Errno
	}{
		{"no index", func(b *bucket.Bucket) { b.Delete(of(1, ident.Index)) }, 3, api.ErrStale},
		{"another index", func(b *bucket.Bucket) { b.Put(of(1, ident.Index), f.Index[:len(f.Index)-1], 40) }, 3, api.ErrSum},
		{"no second index", func(b *bucket.Bucket) { b.Delete(of(2, ident.Index)) }, 6, api.ErrStale},
		{"no chunks", func(b *bucket.Bucket) { b.Delete(of(1, ident.Chunks)) }, 4, api.ErrStale},
		{"no second chunks", func(b *bucket.Bucket) { b.Delete(of(2, ident.Chunks)) }, 7, api.ErrStale},
		{"no bytes", func(b *bucket.Bucket) { b.Put(of(1, ident.Chunks), "", 40) }, 4, api.ErrForm},
		{"a byte less", func(b *bucket.Bucket) { b.Put(of(1, ident.Chunks), f.Chunks[:len(f.Chunks)-1], 40) }, 5, api.ErrSum},
		{"other bytes", func(b *bucket.Bucket) { b.Put(of(1, ident.Chunks), "x"+f.Chunks, 40) }, 4, api.ErrSum},
	} {
		x, b := after(t, 3)
		c.hurt(b)
		was := objects(b)
		for range c.ok - 3 {
			ends(t, c.what, x.Step(b, 40, names().next), api.OK)
		}
		calls(t, c.what, b, 1, c.err, func() api.Errno { return x.Step(b, 40, names().next) })
		has(t, c.what, b, was...)
		if x.Stage() != Scans {
			t.Errorf("%s: stage %d", c.what, x.Stage())
		}
		// The same again, as long as it is so.
		for n := range c.ok {
			ends(t, c.what, x.Step(b, 40, names().next), api.OK)
			if n == c.ok-1 && x.Stage() != Reads {
				t.Errorf("%s: stage %d", c.what, x.Stage())
			}
		}
		ends(t, c.what, x.Step(b, 40, names().next), c.err)
		put(b, first(t), 41)
		put(b, second(t), 41)
		anew(t, c.what, x, b, 41)
	}
}

// What came into the bucket since the scan plays no part in the round.
func TestChangedBetween(t *testing.T) {
	c, b := after(t, 3)
	put(b, built(t, id(4), 20, 30, 1, nil, row("a=1", 25)), 40)
	goes(t, c, b, 40, names(), toThird()[3:]...)
	holds(t, "the round", b, third(t))
	rests(t, c, b, 41, &namer{tick: 41, seq: 9})
	marked(t, "the next round", b, id(4), 41)
	marked(t, "the next round", b, third(t).Meta.ID, 41)
}

// K1, K7: also of numbers that needn't be asked for no call panics, and each ends.
func TestOddNumbers(t *testing.T) {
	odd := []int{math.MinInt, -5, -1, 0, 1, math.MaxInt}
	for _, n := range odd {
		for _, width := range []int64{math.MinInt64, -1, 0, math.MaxInt64} {
			for _, now := range odd {
				c, b := New(Config{Width: width, Grace: n, Patience: n}), two(t)
				for range 40 {
					c.Step(b, now, names().next)
					c.Step(b, -now, names().next)
					c.Again()
				}
				if s := c.Stage(); s < Scans || s > Resting {
					t.Errorf("stage %d", s)
				}
			}
		}
	}
}

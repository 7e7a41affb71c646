package engine

import (
	"slices"
	"testing"

	"barograph/api"
	"barograph/ident"
	"barograph/listing"
	"barograph/merge"
	"barograph/meta"
	"barograph/ship"
)

// shipped: an engine of whose samples two local blocks were cut and sent, at tick 3.
func shipped(t *testing.T, cfg Config) *world {
	t.Helper()
	w := cut(t, cfg, 3)
	for range 8 {
		ends(t, "Ship", w.e.Ship(), api.OK)
	}
	return w
}

// rounds: do so many calls end with OK, then one with ErrIdle?
func rounds(t *testing.T, what string, n int, call func() api.Errno) {
	t.Helper()
	for i := range n {
		if err := call(); err != api.OK {
			t.Fatalf("%s: %d: %d", what, i, err)
		}
	}
	ends(t, what, call(), api.ErrIdle)
}

// marked: when a block was marked; -1: it isn't.
func (w *world) marked(tick, seq int) int {
	if at, is := listed(w.e.Bucket(), 0).Marks[id(tick, seq)]; is {
		return at
	}
	return -1
}

// Compact: a List, metas, two blocks of two rows read, a name and the build, three Puts, two marks; a round by which it rests; and round behind round.
func TestCompact(t *testing.T) {
	w := shipped(t, plain())
	e := w.e
	e.Tick(2)
	calls(t, "Compact", e, 3, 3+6+3+2+6, func() { rounds(t, "Compact", 3+6+1+3+2+6, e.Compact) })
	w.hold(t)
	f, there := blockOf(e.Bucket(), id(5, 3))
	m := f.Meta
	if !there || m.Min != 0 || m.Max != 20 || m.Level != 2 || !slices.Equal(m.Sources, []string{id(3, 1), id(3, 2)}) {
		t.Fatalf("%v, %v", m, objects(e))
	}
	if table, err := f.Table(); err != api.OK || !equal(table, []merge.Row{row("a=1", 1, 2, 11), row("b=1", 3, 12)}) {
		t.Errorf("%v, %d", table, err)
	}
	if w.marked(3, 1) != 5 || w.marked(3, 2) != 5 || w.marked(5, 3) != -1 {
		t.Errorf("%v", objects(e))
	}
	for range 3 {
		calls(t, "at rest", e, 0, 6, func() { rounds(t, "at rest", 6, e.Compact) })
	}
	// The next block has the next number.
	takes(t, e, points("a=1", 61)...)
	ends(t, "Cut", e.Cut(), api.OK)
	if l := ship.Locals(e.Disk()); !slices.Equal(l, []string{id(5, 4)}) {
		t.Errorf("%v", l)
	}
}

// A compactor goes by the head's width.
func TestCompactWidth(t *testing.T) {
	for _, x := range []struct {
		first, second int64
		made          bool
	}{{1, 11, true}, {1, 21, true}, {21, 31, true}, {1, 81, true}, {81, 91, false}, {1, 91, false}} {
		w := newWorld(t, 1, plain())
		e := w.e
		w.taken(points("a=1", x.first, x.second, 200)...)
		ends(t, "Cut", e.Cut(), api.OK)
		ends(t, "Cut", e.Cut(), api.OK)
		until(t, "Ship", api.ErrIdle, e.Ship)
		until(t, "Compact", api.ErrIdle, e.Compact)
		if made := len(listed(e.Bucket(), 0).Metas) == 3; made != x.made {
			t.Errorf("%v: %v", x, objects(e))
		}
	}
}

// A compactor goes by the Config's patience and grace.
func TestCompactStale(t *testing.T) {
	for _, x := range []struct {
		steps, ticks int
		want         api.Errno
	}{
		{1, 5, api.OK}, {1, 6, api.ErrStale}, {5, 5, api.OK}, {5, 6, api.ErrStale},
		{11, 5, api.OK}, {11, 6, api.ErrStale}, {13, 5, api.OK}, {13, 6, api.ErrStale}, {14, 5, api.OK}, {14, 6, api.ErrStale},
	} {
		w := shipped(t, plain())
		for range x.steps {
			ends(t, "Compact", w.e.Compact(), api.OK)
		}
		w.e.Tick(x.ticks)
		if err := w.e.Compact(); err != x.want {
			t.Errorf("%v: %d", x, err)
		}
		w.hold(t)
		w.rest(t)
	}
	// An upload may go on for longer than the patience, if the grace is.
	cfg := plain()
	cfg.Grace = 9
	w := shipped(t, cfg)
	for range 11 {
		ends(t, "Compact", w.e.Compact(), api.OK)
	}
	w.e.Tick(8)
	ends(t, "Compact", w.e.Compact(), api.OK)
	w.e.Tick(1)
	ends(t, "Compact", w.e.Compact(), api.ErrStale)
}

// A new block's name comes from the disk: where that fails, or is full, nothing has changed.
func TestCompactName(t *testing.T) {
	for i := range 3 {
		for _, done := range []bool{false, true} {
			w := shipped(t, plain())
			for range 9 {
				ends(t, "Compact", w.e.Compact(), api.OK)
			}
			w.e.Disk().Arm(i, done)
			ends(t, "a name", w.e.Compact(), api.ErrIO)
			if !w.e.Up() || len(objects(w.e)) != 6 {
				t.Errorf("%v", objects(w.e))
			}
			ends(t, "a name", w.e.Compact(), api.OK)
			w.hold(t)
			w.rest(t)
		}
	}
	full := 0
	for room := range 16 {
		cfg := plain()
		cfg.Room = cut(t, cfg, 3).e.Disk().Used() + 200 + room
		w := shipped(t, cfg)
		for at := int64(40); w.taken(points("a=1", at)...) == api.OK; at++ {
		}
		for range 9 {
			ends(t, "Compact", w.e.Compact(), api.OK)
		}
		// A last number's record has seven bytes.
		if w.e.Disk().Free() >= 7 {
			ends(t, "a name", w.e.Compact(), api.OK)
			continue
		}
		full++
		for range 3 {
			ends(t, "full", w.e.Compact(), api.ErrFull)
		}
		w.hold(t)
	}
	if full < 5 {
		t.Errorf("%d times no room", full)
	}
}

// Sweep: a scan, then what is marked for longer than the delay is deleted, one by one; round behind round.
func TestSweep(t *testing.T) {
	w := shipped(t, plain())
	e := w.e
	until(t, "Compact", api.ErrIdle, e.Compact)
	e.Tick(8)
	for range 2 {
		calls(t, "not yet", e, 0, 6, func() { rounds(t, "not yet", 6, e.Sweep) })
	}
	e.Tick(1)
	before := objects(e)
	for range 6 {
		ends(t, "the scan", e.Sweep(), api.OK)
	}
	if l := objects(e); !slices.Equal(l, before) {
		t.Errorf("%v", l)
	}
	for seq := 1; seq <= 2; seq++ {
		for _, name := range []string{ident.Meta, ident.Index, ident.Chunks, ident.Mark} {
			calls(t, "a victim", e, 0, 1, func() { ends(t, "a victim", e.Sweep(), api.OK) })
			before = slices.DeleteFunc(before, func(s string) bool { return s == part(3, seq, name) })
			if l := objects(e); !slices.Equal(l, before) {
				t.Errorf("%v, not %v", l, before)
			}
			w.hold(t)
		}
	}
	ends(t, "the end", e.Sweep(), api.ErrIdle)
	for range 2 {
		rounds(t, "at rest", 2, e.Sweep)
	}
	if l := objects(e); len(l) != 3 {
		t.Errorf("%v", l)
	}
}

// What never became a block is deleted when it is older than the grace.
func TestSweepLeft(t *testing.T) {
	for ticks := range 10 {
		w := cut(t, plain(), 3)
		ends(t, "Ship", w.e.Ship(), api.OK)
		w.e.Crash()
		w.mend(t)
		w.e.Tick(ticks)
		n := 1
		if ticks > plain().Grace {
			n = 2
		}
		rounds(t, "Sweep", n, w.e.Sweep)
		if l := objects(w.e); len(l) != 2-n {
			t.Errorf("%d: %v", ticks, l)
		}
	}
}

// A sweeper goes by the Config's patience.
func TestSweepStale(t *testing.T) {
	for ticks := range 9 {
		w := shipped(t, plain())
		ends(t, "Sweep", w.e.Sweep(), api.OK)
		w.e.Tick(ticks)
		if ticks <= plain().Patience {
			rounds(t, "Sweep", 2, w.e.Sweep)
			continue
		}
		calls(t, "stale", w.e, 0, 0, func() { ends(t, "stale", w.e.Sweep(), api.ErrStale) })
		rounds(t, "anew", 3, w.e.Sweep)
	}
}

// oks: calls, until one ends with ErrIdle; how many of them are OK.
func (w *world) oks(t *testing.T, call func() api.Errno) int {
	t.Helper()
	n := 0
	until(t, "a round", api.ErrIdle, func() api.Errno {
		err := call()
		if err == api.OK {
			n++
		} else if err != api.ErrIdle && err != api.ErrIO {
			t.Errorf("a round: %d", err)
		}
		w.hold(t)
		return err
	})
	return n
}

// Compact's, Sweep's and Update's calls that fail are made again; their rounds go on.
func TestKeepFaults(t *testing.T) {
	for i := range 45 {
		for _, done := range []bool{false, true} {
			w := shipped(t, plain())
			w.e.Bucket().Arm(i, done)
			compact := w.oks(t, w.e.Compact)
			w.e.Tick(9)
			sweep := w.oks(t, w.e.Sweep)
			update := w.oks(t, w.e.Update)
			if compact != 21 || sweep != 6+8 || update != 3 {
				t.Errorf("call %d fails, done %v: %d, %d, %d steps", i, done, compact, sweep, update)
			}
			if l := objects(w.e); len(l) != 4 || !w.e.Up() {
				t.Errorf("%d: %v", i, l)
			}
		}
	}
}

// sentAt: the ticks of the notes, by names.
func sentAt(e *Engine) []int {
	var l []int
	for _, s := range ship.Noted(e.Disk()) {
		l = append(l, s.At)
	}
	return l
}

// Update: a scan, then the index is put; then what was sent ahead of the tick at which the scan began is forgotten; round behind round.
func TestUpdate(t *testing.T) {
	w := cut(t, plain(), 3)
	e := w.e
	for range 4 {
		ends(t, "Ship", e.Ship(), api.OK)
	}
	e.Tick(1)
	for range 4 {
		ends(t, "Ship", e.Ship(), api.OK)
	}
	for round, want := range [][]int{{4}, nil, nil} {
		at := e.Now()
		calls(t, "Update", e, 0, 4, func() {
			for range 3 {
				ends(t, "the scan", e.Update(), api.OK)
			}
			e.Tick(1)
			ends(t, "the index", e.Update(), api.OK)
		})
		said, _ := e.Bucket().Peek(listing.Name)
		if l, err := listing.Decode(said); err != api.OK || l.At != at || len(l.Metas) != 2 || len(l.Marks) != 0 {
			t.Errorf("%v, %d", l, err)
		}
		n := len(sentAt(e)) - len(want)
		calls(t, "forgotten", e, n, 0, func() { ends(t, "forgotten", e.Update(), api.ErrIdle) })
		if l := sentAt(e); !slices.Equal(l, want) {
			t.Errorf("%d: %v, not %v", round, l, want)
		}
	}
}

// What is sent while the index is kept isn't forgotten: at the scan's tick, or later.
func TestUpdateSent(t *testing.T) {
	w := cut(t, plain(), 3)
	e := w.e
	ends(t, "the List", e.Update(), api.OK)
	for range 4 {
		ends(t, "Ship", e.Ship(), api.OK)
	}
	e.Tick(2)
	for range 4 {
		ends(t, "Ship", e.Ship(), api.OK)
	}
	until(t, "Update", api.ErrIdle, e.Update)
	if l := sentAt(e); !slices.Equal(l, []int{3, 5}) {
		t.Errorf("%v", l)
	}
	if got := answered(t, e); !equal(got, w.book.Sure()) {
		t.Errorf("%v", got)
	}
	until(t, "Update", api.ErrIdle, e.Update)
	if l := sentAt(e); !slices.Equal(l, []int{5}) {
		t.Errorf("%v", l)
	}
	if got := answered(t, e); !equal(got, w.book.Sure()) {
		t.Errorf("%v", got)
	}
}

// An update goes by the Config's patience.
func TestUpdateStale(t *testing.T) {
	for _, steps := range []int{1, 3} {
		for ticks := range 9 {
			w := shipped(t, plain())
			for range steps {
				ends(t, "Update", w.e.Update(), api.OK)
			}
			w.e.Tick(ticks)
			if ticks <= plain().Patience {
				rounds(t, "Update", 4-steps, w.e.Update)
				continue
			}
			calls(t, "stale", w.e, 0, 0, func() { ends(t, "stale", w.e.Update(), api.ErrStale) })
			rounds(t, "anew", 4, w.e.Update)
		}
	}
}

// A note that can't be forgotten is the next step's; the index isn't put again.
func TestUpdateFaults(t *testing.T) {
	for i := range 2 {
		for _, done := range []bool{false, true} {
			w := shipped(t, plain())
			e := w.e
			e.Tick(1)
			for range 4 {
				ends(t, "Update", e.Update(), api.OK)
			}
			e.Disk().Arm(i, done)
			ends(t, "a fault", e.Update(), api.ErrIO)
			n := 2 - i
			if done {
				n--
			}
			if l := sentAt(e); len(l) != n || !e.Up() {
				t.Errorf("%v", l)
			}
			calls(t, "again", e, n, 0, func() { ends(t, "again", e.Update(), api.ErrIdle) })
			if l := sentAt(e); len(l) != 0 {
				t.Errorf("%v", l)
			}
			rounds(t, "the next one", 4, e.Update)
		}
	}
}

// A note of a Put that failed once is the same as of one that didn't; what it tells of is in the bucket.
func TestNotes(t *testing.T) {
	w := shipped(t, plain())
	for _, s := range ship.Noted(w.e.Disk()) {
		said, there := w.e.Bucket().Peek(ident.Object(s.Meta.ID, ident.Meta))
		if !there || said != meta.Encode(s.Meta) || s.At != 3 {
			t.Errorf("%v", s)
		}
	}
}

package engine

import (
	"slices"
	"strings"
	"testing"

	"barograph/api"
	"barograph/bucket"
	"barograph/ident"
	"barograph/merge"
	"barograph/ship"
	"barograph/wal"
)

// cut: an engine with two local blocks of now, and a head.
func cut(t *testing.T, cfg Config, now int) *world {
	t.Helper()
	w := newWorld(t, 1, cfg)
	ends(t, "Append", w.taken(some()...), api.OK)
	w.e.Tick(now)
	for range 2 {
		ends(t, "Cut", w.e.Cut(), api.OK)
	}
	return w
}

// part: the name of an object of a block.
func part(tick, seq int, part string) string {
	return ident.Object(id(tick, seq), part)
}

// A block's way: its chunks, its index, its meta, one call of the bucket each; then it is noted, and no local block any more; then the next one.
func TestShip(t *testing.T) {
	cfg := plain()
	cfg.Grace = 100
	w := cut(t, cfg, 3)
	e := w.e
	var want []bucket.Info
	for seq := 1; seq <= 2; seq++ {
		f, err := ship.Load(e.Disk(), id(3, seq))
		ends(t, "Load", err, api.OK)
		for i, name := range []string{ident.Chunks, ident.Index, ident.Meta} {
			e.Tick(1)
			calls(t, "Ship", e, 0, 1, func() { ends(t, "Ship", e.Ship(), api.OK) })
			data, there := e.Bucket().Peek(part(3, seq, name))
			if l := e.Bucket().Look(""); !there || len(l) != len(want)+1 {
				t.Errorf("%v", l)
			}
			want = append(want, bucket.Info{Name: part(3, seq, name), Size: len(data), At: e.Now()})
			if i < 2 && data != []string{f.Chunks, f.Index}[i] {
				t.Errorf("%q", data)
			}
			if l := ship.Locals(e.Disk()); len(l) != 3-seq || len(ship.Noted(e.Disk())) != seq-1 {
				t.Errorf("%v, %v", l, ship.Noted(e.Disk()))
			}
			w.hold(t)
		}
		e.Tick(5)
		calls(t, "Ship", e, 6, 0, func() { ends(t, "Ship", e.Ship(), api.OK) })
		notes := ship.Noted(e.Disk())
		if len(notes) != seq || notes[seq-1].At != e.Now() || notes[seq-1].Meta.ID != id(3, seq) || !slices.Equal(notes[seq-1].Meta.Files, f.Meta.Files) {
			t.Errorf("%v", notes)
		}
		if l := e.Disk().List("blk-"); len(l) != 3*(2-seq) {
			t.Errorf("%v", l)
		}
		if got, _ := blockOf(e.Bucket(), id(3, seq)); got.Chunks != f.Chunks || got.Index != f.Index {
			t.Errorf("%v", got)
		}
		w.hold(t)
	}
	if l := e.Bucket().Look(""); !slices.Equal(l, want) {
		t.Errorf("%v, not %v", l, want)
	}
	for range 3 {
		calls(t, "Ship", e, 0, 0, func() { ends(t, "Ship", e.Ship(), api.ErrIdle) })
	}
}

// A local block whose name is grace ticks old has a new name, of now, and is the same else; that is all of that step.
func TestShipLate(t *testing.T) {
	for ticks := range 10 {
		w := cut(t, plain(), 3)
		e := w.e
		table := localTable(t, e.Disk(), id(3, 1))
		old, _ := ship.Load(e.Disk(), id(3, 1))
		e.Tick(ticks)
		if ticks < plain().Grace {
			ends(t, "in time", e.Ship(), api.OK)
			if l := objects(e); len(l) != 1 || len(ship.Locals(e.Disk())) != 2 {
				t.Errorf("%d: %v", ticks, l)
			}
			continue
		}
		calls(t, "late", e, 15, 0, func() { ends(t, "late", e.Ship(), api.OK) })
		if l := objects(e); len(l) != 0 || !slices.Equal(ship.Locals(e.Disk()), []string{id(3, 2), id(3+ticks, 3)}) {
			t.Fatalf("%d: %v, %v", ticks, l, ship.Locals(e.Disk()))
		}
		f, err := ship.Load(e.Disk(), id(3+ticks, 3))
		m := f.Meta
		if err != api.OK || m.Min != 0 || m.Max != 10 || m.Level != 1 || len(m.Sources) != 0 || f.Chunks != old.Chunks || f.Index != old.Index {
			t.Errorf("%v", m)
		}
		if got := localTable(t, e.Disk(), id(3+ticks, 3)); !equal(got, table) {
			t.Errorf("%v, not %v", got, table)
		}
		if l := e.Disk().List("blk-"); len(l) != 6 {
			t.Errorf("%v", l)
		}
		w.hold(t)
		// The other one is late, too; then both are shipped.
		ends(t, "late", e.Ship(), api.OK)
		for range 8 {
			ends(t, "in time", e.Ship(), api.OK)
		}
		ends(t, "all", e.Ship(), api.ErrIdle)
		w.hold(t)
		w.rest(t)
	}
}

// An upload that becomes late is none any more; what was put of it stays, until it is old enough.
func TestShipStale(t *testing.T) {
	for n := 1; n <= 2; n++ {
		w := cut(t, plain(), 3)
		e := w.e
		for range n {
			ends(t, "Ship", e.Ship(), api.OK)
		}
		e.Tick(plain().Grace)
		calls(t, "stale", e, 0, 0, func() { ends(t, "stale", e.Ship(), api.ErrStale) })
		w.hold(t)
		ends(t, "a new name", e.Ship(), api.OK)
		if l := ship.Locals(e.Disk()); !slices.Equal(l, []string{id(3, 2), id(9, 3)}) || len(objects(e)) != n {
			t.Errorf("%v, %v", l, objects(e))
		}
		w.rest(t)
		if l := objects(e); slices.ContainsFunc(l, func(name string) bool { return strings.HasPrefix(name, id(3, 1)) }) {
			t.Errorf("%v", l)
		}
	}
	// When all three are put it isn't too late to note it.
	w := cut(t, plain(), 3)
	for range 3 {
		ends(t, "Ship", w.e.Ship(), api.OK)
	}
	w.e.Tick(1000)
	ends(t, "noted", w.e.Ship(), api.OK)
	if l := ship.Noted(w.e.Disk()); len(l) != 1 || l[0].At != 1003 {
		t.Errorf("%v", l)
	}
}

// A new name that finds no room changes nothing but the last number.
func TestShipLateFull(t *testing.T) {
	cfg := plain()
	w := cut(t, cfg, 3)
	for cfg.Room = w.e.Disk().Used() + 7; cfg.Room < w.e.Disk().Used()+100; cfg.Room += 9 {
		w := cut(t, cfg, 3)
		w.e.Tick(50)
		before := w.e.Disk().List("")
		for range 3 {
			ends(t, "full", w.e.Ship(), api.ErrFull)
			w.hold(t)
		}
		if l := w.e.Disk().List(""); !slices.Equal(l, before) || !w.e.Up() {
			t.Errorf("%v, not %v", l, before)
		}
	}
}

// P24.1, P24.2: a new name of which a call fails: no sample is lost; it is up.
func TestShipLateFaults(t *testing.T) {
	eachFault(t, "late", 15, 0, plain(), func(w *world) {
		w.taken(some()...)
		w.e.Cut()
		w.e.Tick(20)
		for w.e.Update() == api.OK {
		}
	}, func(w *world) api.Errno { return w.e.Ship() })
}

// P24.1, P24.2: a note or an erasing of which a call fails: it is done again, by the next step; no sample is lost; it is up.
func TestShipSentFaults(t *testing.T) {
	before := func(w *world) {
		w.taken(some()...)
		w.e.Cut()
		for range 3 {
			w.e.Ship()
		}
		w.e.Tick(1)
	}
	eachFault(t, "sent", 6, 0, plain(), before, func(w *world) api.Errno { return w.e.Ship() })
	for i := range 6 {
		for _, done := range []bool{false, true} {
			w := newWorld(t, 1, plain())
			before(w)
			w.e.Disk().Arm(i, done)
			ends(t, "sent", w.e.Ship(), api.ErrIO)
			w.e.Tick(1)
			ends(t, "again", w.e.Ship(), api.OK)
			if l := ship.Noted(w.e.Disk()); len(l) != 1 || l[0].At != 2 || len(w.e.Disk().List("blk-")) != 0 {
				t.Errorf("%d: %v, %v", i, l, w.e.Disk().List("blk-"))
			}
			ends(t, "all", w.e.Ship(), api.ErrIdle)
		}
	}
}

// A note that finds no room: the block stays a local one.
func TestShipNoteFull(t *testing.T) {
	cfg := plain()
	w := cut(t, cfg, 3)
	cfg.Room = w.e.Disk().Used() + 20
	w = cut(t, cfg, 3)
	for range 3 {
		ends(t, "Ship", w.e.Ship(), api.OK)
	}
	for range 3 {
		ends(t, "full", w.e.Ship(), api.ErrFull)
		w.hold(t)
	}
	if l := ship.Locals(w.e.Disk()); len(l) != 2 || len(ship.Noted(w.e.Disk())) != 0 || !w.e.Up() {
		t.Errorf("%v", l)
	}
}

// A Put that fails is made again by the next step: chunks, index, meta.
func TestShipFaults(t *testing.T) {
	for i := range 3 {
		for _, done := range []bool{false, true} {
			w := cut(t, plain(), 3)
			w.e.Bucket().Arm(i, done)
			for range i {
				ends(t, "Ship", w.e.Ship(), api.OK)
			}
			ends(t, "a fault", w.e.Ship(), api.ErrIO)
			n := i
			if done {
				n++
			}
			if l := objects(w.e); len(l) != n || !w.e.Up() {
				t.Errorf("%v", l)
			}
			w.hold(t)
			for range 4 - i {
				ends(t, "Ship", w.e.Ship(), api.OK)
				w.hold(t)
			}
			if l := objects(w.e); len(l) != 3 || len(ship.Noted(w.e.Disk())) != 1 {
				t.Errorf("%v", l)
			}
			w.rest(t)
		}
	}
}

// A crash behind any step: the block's upload begins anew, while it isn't late.
func TestShipCrash(t *testing.T) {
	for n := range 4 {
		w := cut(t, plain(), 3)
		for range n {
			ends(t, "Ship", w.e.Ship(), api.OK)
		}
		w.e.Crash()
		w.mend(t)
		w.e.Tick(1)
		for i := range 3 {
			ends(t, "anew", w.e.Ship(), api.OK)
			w.hold(t)
			name := part(3, 1, []string{ident.Chunks, ident.Index, ident.Meta}[i])
			if l := w.e.Bucket().Look(name); len(l) != 1 || l[0].At != 4 {
				t.Errorf("%v", l)
			}
		}
		ends(t, "noted", w.e.Ship(), api.OK)
		w.rest(t)
	}
}

// half: an engine of which the first block is in the bucket, but not noted yet, as its meta's Put failed, or as it crashed; with another one it was made a third one, and was marked, for longer than the delay.
func half(t *testing.T, crash bool) *world {
	t.Helper()
	cfg := plain()
	cfg.Delay, cfg.Patience, cfg.Grace = 2, 2, 1000
	w := newWorld(t, 1, cfg)
	ends(t, "Append", w.taken(some()...), api.OK)
	ends(t, "Cut", w.e.Cut(), api.OK)
	for range 4 {
		ends(t, "Ship", w.e.Ship(), api.OK)
	}
	ends(t, "Cut", w.e.Cut(), api.OK)
	if crash {
		for range 3 {
			ends(t, "Ship", w.e.Ship(), api.OK)
		}
		w.e.Crash()
		w.mend(t)
	} else {
		w.e.Bucket().Arm(2, true)
		for range 3 {
			w.e.Ship()
		}
	}
	until(t, "Compact", api.ErrIdle, w.e.Compact)
	w.e.Tick(3)
	if _, marked := w.e.Bucket().Peek(part(0, 2, ident.Mark)); !marked {
		t.Fatalf("the test's own block: %v", objects(w.e))
	}
	return w
}

// P24.4, P24.5: an upload comes to its meta when the block was marked long ago, and is deleted, or half so: the meta isn't put without the files; in the end all is at rest.
func TestShipGone(t *testing.T) {
	for _, crash := range []bool{false, true} {
		for sweeps := range 14 {
			for ships := range 4 {
				w := half(t, crash)
				// The first block goes first: its objects, and the scan's own calls.
				for range 2*(sweeps/2) + 4 {
					w.e.Sweep()
					w.hold(t)
				}
				for range ships {
					w.e.Ship()
					w.hold(t)
				}
				for range sweeps % 2 * 5 {
					w.e.Sweep()
					w.hold(t)
				}
				for range 8 {
					w.e.Ship()
					w.hold(t)
					w.e.Sweep()
					w.hold(t)
				}
				w.rest(t)
				if t.Failed() {
					t.Fatalf("%v, %d, %d", crash, sweeps, ships)
				}
			}
		}
	}
}

// A block that is wholly gone from the bucket again is put from its beginning.
func TestShipAgain(t *testing.T) {
	w := half(t, false)
	until(t, "Sweep", api.ErrIdle, w.e.Sweep)
	before := objects(w.e)
	calls(t, "gone", w.e, 0, 0, func() { ends(t, "gone", w.e.Ship(), api.ErrStale) })
	if l := objects(w.e); !slices.Equal(l, before) {
		t.Errorf("%v, not %v", l, before)
	}
	for range 4 {
		ends(t, "again", w.e.Ship(), api.OK)
		w.hold(t)
	}
	ends(t, "all", w.e.Ship(), api.ErrIdle)
	w.rest(t)
}

// Local blocks go by rising names, also when some are renamed.
func TestShipOrder(t *testing.T) {
	w := cut(t, plain(), 3)
	e := w.e
	e.Tick(4)
	takes(t, e, points("a=1", 61)...)
	ends(t, "Cut", e.Cut(), api.OK)
	e.Tick(2)
	for range 2 {
		ends(t, "late", e.Ship(), api.OK)
	}
	if l := ship.Locals(e.Disk()); !slices.Equal(l, []string{id(7, 3), id(9, 4), id(9, 5)}) {
		t.Fatalf("%v", l)
	}
	for i := range 3 {
		for range 4 {
			ends(t, "Ship", e.Ship(), api.OK)
		}
		if n := len(ship.Locals(e.Disk())); n != 2-i {
			t.Errorf("%d local blocks", n)
		}
	}
	if l := e.Bucket().Look(""); len(l) != 9 || l[0].Name != part(7, 3, ident.Chunks) || l[8].Name != part(9, 5, ident.Meta) {
		t.Errorf("%v", l)
	}
	until(t, "Update", api.ErrIdle, e.Update)
	if got := answered(t, e); !equal(got, []merge.Row{row("a=1", 1, 2, 11, 35, 61), row("b=1", 3, 12)}) {
		t.Errorf("%v", got)
	}
	if l := e.Disk().List("tmp"); len(l) != 0 || e.Disk().List("wal-")[0] != wal.Name(1) {
		t.Errorf("%v", l)
	}
}

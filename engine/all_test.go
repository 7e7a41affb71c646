package engine

import (
	"testing"

	"barograph/api"
	"barograph/head"
)

// anyConfig: of a seed, of much room; a block's grace is over by the time it is deleted.
func anyConfig(seed int) Config {
	r := rolls(seed)
	delay := 1 + r.below(30)
	return Config{
		Head:     head.Config{Series: 10, Samples: 500, Width: 10},
		Room:     1 << 20,
		Segment:  1 + r.below(500),
		Delay:    delay,
		Grace:    1 + r.below(delay+1),
		Patience: 1 + r.below(delay),
	}
}

// longGrace: likewise, but that an upload may still go on when its block is deleted again.
func longGrace(seed int) Config {
	cfg := anyConfig(seed)
	r := rolls(seed + 1000)
	cfg.Delay = 1 + r.below(5)
	cfg.Patience = 1 + r.below(cfg.Delay)
	cfg.Grace = cfg.Delay + 2 + r.below(60)
	return cfg
}

// goes: a world in which much happens, and what must hold behind each act; then it comes to rest, if it may.
func goes(t *testing.T, seed int, cfg Config, n int, act func(w *world), rests bool) told {
	t.Helper()
	w := newWorld(t, seed, cfg)
	for i := range n {
		act(w)
		w.hold(t)
		if t.Failed() {
			t.Fatalf("seed %d, %d, %v", seed, i, cfg)
		}
	}
	if !rests {
		return w.told
	}
	w.rest(t)
	if t.Failed() {
		t.Fatalf("seed %d, at rest, %v", seed, cfg)
	}
	return w.told
}

// sum: what two worlds did, together.
func (a told) sum(b told) told {
	a.appends += b.appends
	a.refused += b.refused
	a.full += b.full
	a.torn += b.torn
	a.crashes += b.crashes
	a.recovered += b.recovered
	a.cuts += b.cuts
	a.checkpoints += b.checkpoints
	a.sent += b.sent
	a.renamed += b.renamed
	a.answered += b.answered
	a.stale += b.stale
	return a
}

// P24.1 to P24.5: all goes on in any order, and whatever fails, or crashes, between.
func TestAllTogether(t *testing.T) {
	var all told
	for seed := range 40 {
		all = all.sum(goes(t, seed, anyConfig(seed), 1000, func(w *world) { w.act(t) }, true))
	}
	t.Logf("%+v", all)
	if all.appends < 2000 || min(all.refused, all.torn) < 100 || min(all.answered, all.crashes, all.recovered, all.cuts, all.checkpoints, all.sent) < 200 || min(all.renamed, all.stale) < 10 {
		t.Errorf("%+v", all)
	}
}

// P24.1 to P24.5: the same, when blocks may be deleted while they are still being shipped.
func TestLongGrace(t *testing.T) {
	for seed := range 15 {
		goes(t, seed, longGrace(seed), 1000, func(w *world) { w.act(t) }, true)
	}
	for seed := range 60 {
		goes(t, seed, longGrace(seed), 500, func(w *world) { w.shipSlowly(t) }, true)
	}
}

// shipSlowly: an act, of which few ship; what is shipped is soon made one, and deleted; Puts fail that are done.
func (w *world) shipSlowly(t *testing.T) {
	t.Helper()
	switch n := w.below(100); {
	case n < 10:
		w.take(t)
	case n < 20:
		count(&w.cuts, w.e.Cut())
	case n < 45:
		w.ship()
	case n < 60:
		w.often(60, w.e.Compact)
	case n < 75:
		w.often(30, w.e.Sweep)
	case n < 80:
		w.e.Tick(1)
	case n < 84:
		w.e.Tick(w.below(8))
	case n < 90:
		w.e.Bucket().Arm(w.below(4), true)
	case n < 91:
		w.crash()
	case n < 96:
		w.mend(t)
	default:
		w.often(30, w.e.Update)
	}
	w.down()
}

// P24.1 to P24.4: the same, where there is little room; what finds none changes nothing.
func TestLittleRoom(t *testing.T) {
	var all told
	for seed := range 25 {
		cfg := anyConfig(seed)
		r := rolls(seed + 2000)
		cfg.Room = 300 + r.below(1500)
		all = all.sum(goes(t, seed, cfg, 1000, func(w *world) { w.act(t) }, false))
	}
	if all.full < 100 || min(all.appends, all.cuts, all.sent) < 100 {
		t.Errorf("%+v", all)
	}
}

// P24.5: when nothing fails, and no points come, and the clock goes on just far enough.
func TestRest(t *testing.T) {
	for seed := range 20 {
		w := newWorld(t, seed, anyConfig(seed))
		for range 300 {
			w.take(t)
			w.e.Cut()
			if w.below(3) == 0 {
				w.e.Ship()
				w.e.Update()
			}
			w.e.Tick(w.below(2))
		}
		for range 3 {
			// By then what is marked, or left, is old enough.
			w.e.Tick(max(w.cfg.Delay, w.cfg.Grace) + 1)
			for _, call := range []func() api.Errno{w.e.Ship, w.e.Compact, w.e.Sweep, w.e.Compact, w.e.Sweep, w.e.Update, w.e.Update} {
				until(t, "a round", api.ErrIdle, call)
				w.hold(t)
			}
		}
		w.atRest(t)
		ends(t, "Checkpoint", w.e.Checkpoint(), api.OK)
		w.e.Crash()
		w.mend(t)
		w.hold(t)
		if t.Failed() {
			t.Fatalf("seed %d", seed)
		}
	}
}

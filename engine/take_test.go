package engine

import (
	"slices"
	"testing"

	"barograph/api"
	"barograph/head"
	"barograph/merge"
	"barograph/query"
	"barograph/ship"
	"barograph/wal"
)

// P24.1: what is appended is in the head; the first point that may not be is told, and then nothing is there.
func TestAppend(t *testing.T) {
	e := fresh(t, plain())
	takes(t, e)
	takes(t, e, points("a=1", 1, 5, 9)...)
	takes(t, e, append(points("b=1", 3), points("a=1", 10)...)...)
	want := []merge.Row{row("a=1", 1, 5, 9, 10), row("b=1", 3)}
	has(t, "taken", e, want...)
	used := e.Disk().Used()
	for i, x := range []struct {
		l     []head.Point
		place int
		want  api.Errno
	}{
		{points("", 20), 0, api.ErrLabel},
		{points("a=1", 11, 12, -1), 2, api.ErrArg},
		{points("a=1", 1<<40), 0, api.ErrArg},
		{points("a=1", 11, 11), 1, api.ErrTwice},
		{points("a=1", 10), 0, api.ErrTwice},
		{points("a=1", 11, 9), 1, api.ErrOrder},
		{append(points("b=1", 4), points("a=1", 8)...), 1, api.ErrOrder},
		{points("a=1", slices.Repeat([]int64{11}, 1)...), -1, api.OK},
	} {
		if place, err := e.Append(x.l...); place != x.place || err != x.want {
			t.Errorf("%d: %d, %d, not %d, %d", i, place, err, x.place, x.want)
		}
		if x.want != api.OK && (e.Disk().Used() != used || !equal(whole(e), want)) {
			t.Errorf("%d: %v", i, whole(e))
		}
	}
	has(t, "taken", e, row("a=1", 1, 5, 9, 10, 11), row("b=1", 3))
}

// The head's limits are the Config's.
func TestLimits(t *testing.T) {
	cfg := plain()
	cfg.Head.Series, cfg.Head.Samples = 2, 4
	e := fresh(t, cfg)
	if i, err := e.Append(append(points("a=1", 1), append(points("b=1", 1), points("c=1", 1)...)...)...); i != 2 || err != api.ErrLimit {
		t.Errorf("series: %d, %d", i, err)
	}
	if i, err := e.Append(points("a=1", 1, 2, 3, 4, 5)...); i != 4 || err != api.ErrLimit {
		t.Errorf("samples: %d, %d", i, err)
	}
	has(t, "nothing", e)
	takes(t, e, points("a=1", 1, 2, 3, 4)...)
	e.Crash()
	ends(t, "Recover", e.Recover(), api.OK)
	if i, err := e.Append(points("b=1", 1)...); i != 0 || err != api.ErrLimit {
		t.Errorf("samples: %d, %d", i, err)
	}
}

// The log's segments have so many bytes.
func TestSegments(t *testing.T) {
	for _, x := range [][2]int{{1, 5}, {1000, 1}} {
		cfg := plain()
		cfg.Segment = x[0]
		e := fresh(t, cfg)
		for i := range 5 {
			takes(t, e, points("a=1", int64(i))...)
		}
		if l := e.Disk().List("wal-"); len(l) != x[1] || l[0] != wal.Name(1) {
			t.Errorf("segments of %d: %v", x[0], l)
		}
		e.Crash()
		ends(t, "Recover", e.Recover(), api.OK)
		has(t, "recovered", e, row("a=1", 0, 1, 2, 3, 4))
	}
}

// P24.2: what was appended with OK is there for sure.
func TestTaken(t *testing.T) {
	e := fresh(t, plain())
	var times []int64
	for at := range int64(20) {
		takes(t, e, points("a=1", at)...)
		times = append(times, at)
		e.Crash(3, 3, 3)
		ends(t, "Recover", e.Recover(), api.OK)
		has(t, "recovered", e, row("a=1", times...))
	}
}

// An Append that finds no room: nothing has changed; it is up.
func TestAppendFull(t *testing.T) {
	cfg := plain()
	cfg.Room = 100
	e := fresh(t, cfg)
	at := int64(0)
	err := api.OK
	for ; err == api.OK; at++ {
		_, err = e.Append(points("a=1", at)...)
	}
	ends(t, "full", err, api.ErrFull)
	if n := e.Head().Samples(); n != int(at)-1 || n < 3 || !e.Up() {
		t.Errorf("%d samples of %d", n, at)
	}
	if i, err := e.Append(points("a=1", at, at+1)...); i != -1 || err != api.ErrFull {
		t.Errorf("full: %d, %d", i, err)
	}
	rows := whole(e)
	e.Crash(9, 9, 9)
	ends(t, "Recover", e.Recover(), api.OK)
	has(t, "recovered", e, rows...)
}

// after is a way on behind a failed call.
type after struct {
	crash  bool
	choice []int
}

// ways: it recovers at once, or behind a crash that leaves nothing, all, or some of what wasn't there for sure.
func ways() []after {
	l := []after{{}, {crash: true}}
	for n := range 40 {
		l = append(l, after{crash: true, choice: []int{n, n, n, n}})
	}
	return l
}

// goOn: what is there then is what may be, and is answered.
func (w *world) goOn(t *testing.T, x after) {
	t.Helper()
	if x.crash {
		w.e.Crash(x.choice...)
	}
	if !w.e.Up() {
		w.mend(t)
	}
	w.hold(t)
	if got := answered(t, w.e); !equal(got, w.book.Sure()) {
		t.Errorf("P24.3: %v, not %v", got, w.book.Sure())
	}
}

// eachFault: a call behind some others; of each of its calls of the disk that fails, done or not: it answers ErrIO, and is up, if none of the log's failed; whatever comes then, nothing is lost, and at last it is OK.
func eachFault(t *testing.T, what string, n, ofLog int, cfg Config, before func(w *world), call func(w *world) api.Errno) {
	t.Helper()
	w := newWorld(t, 1, cfg)
	before(w)
	calls(t, what, w.e, n, 0, func() { ends(t, what, call(w), api.OK) })
	w.hold(t)
	for i := range n {
		for _, done := range []bool{false, true} {
			for _, x := range ways() {
				w := newWorld(t, 1, cfg)
				before(w)
				w.e.Disk().Arm(i, done)
				if err := call(w); err != api.ErrIO || w.e.Up() == (i >= n-ofLog) {
					t.Errorf("%s: %d, up %v", what, err, w.e.Up())
				}
				w.hold(t)
				w.goOn(t, x)
				w.rest(t)
				if t.Failed() {
					t.Fatalf("%s: call %d fails, done %v, then %v", what, i, done, x)
				}
			}
		}
	}
}

// taken: points are appended, with OK, and in the book.
func (w *world) taken(l ...head.Point) api.Errno {
	_, err := w.e.Append(l...)
	switch err {
	case api.OK:
		w.book.Done(l...)
	case api.ErrIO:
		w.book.Tried(l...)
	}
	return err
}

// some: points of two series, of the first two ranges and of a later one.
func some() []head.Point {
	return slices.Concat(points("a=1", 1, 2, 11, 35), points("b=1", 3, 12))
}

// P24.1, P24.2: an Append of which a call fails: it is down; of each series the first ones are there, when it has recovered.
func TestAppendFaults(t *testing.T) {
	more := slices.Concat(points("a=1", 40), points("c=1", 4, 5), points("a=1", 41))
	for _, segment := range []int{1, 1000} {
		cfg := plain()
		cfg.Segment = segment
		eachFault(t, "Append", 2, 2, cfg, func(w *world) { w.taken(some()...) }, func(w *world) api.Errno { return w.taken(more...) })
	}
}

// P24.2: which of them are there: none, some first ones, all.
func TestTorn(t *testing.T) {
	seen := map[int]int{}
	for n := range 60 {
		e := fresh(t, plain())
		takes(t, e, points("a=1", 1)...)
		e.Disk().Arm(1, false)
		i, err := e.Append(points("a=1", 2, 3, 4)...)
		if i != -1 || err != api.ErrIO || e.Up() {
			t.Fatalf("Append: %d, %d", i, err)
		}
		e.Crash(n)
		ends(t, "Recover", e.Recover(), api.OK)
		l := whole(e)
		if !equal(l, []merge.Row{row("a=1", []int64{1, 2, 3, 4}[:merge.Count(l)]...)}) {
			t.Errorf("%v", l)
		}
		seen[merge.Count(l)]++
	}
	if len(seen) != 4 {
		t.Errorf("%v", seen)
	}
}

// P24.1: a Cut: the oldest range is a local block, of a name of now; the head goes on behind it.
func TestCut(t *testing.T) {
	e := fresh(t, plain())
	takes(t, e, some()...)
	e.Tick(33)
	calls(t, "Cut", e, 14, 0, func() { ends(t, "Cut", e.Cut(), api.OK) })
	has(t, "cut", e, row("a=1", 11, 35), row("b=1", 12))
	if e.Head().Floor() != 10 {
		t.Errorf("the floor: %d", e.Head().Floor())
	}
	e.Tick(1)
	ends(t, "Cut", e.Cut(), api.OK)
	has(t, "cut", e, row("a=1", 35))
	ends(t, "Cut", e.Cut(), api.ErrIdle)
	if l := ship.Locals(e.Disk()); !slices.Equal(l, []string{id(33, 1), id(34, 2)}) {
		t.Fatalf("%v", l)
	}
	tables := [][]merge.Row{{row("a=1", 1, 2), row("b=1", 3)}, {row("a=1", 11), row("b=1", 12)}}
	for i, name := range ship.Locals(e.Disk()) {
		f, err := ship.Load(e.Disk(), name)
		m := f.Meta
		if err != api.OK || m.ID != name || m.Min != int64(10*i) || m.Max != int64(10*i+10) || m.Level != 1 || len(m.Sources) != 0 {
			t.Errorf("%v, %d", m, err)
		}
		if got := localTable(t, e.Disk(), name); !equal(got, tables[i]) {
			t.Errorf("%v", got)
		}
	}
	// Samples are taken from the floor on, also behind a crash.
	for range 2 {
		if i, err := e.Append(points("c=1", 19)...); i != 0 || err != api.ErrOrder {
			t.Errorf("below the floor: %d, %d", i, err)
		}
		e.Crash()
		ends(t, "Recover", e.Recover(), api.OK)
		has(t, "recovered", e, row("a=1", 35))
	}
	takes(t, e, points("c=1", 20)...)
}

// When a range may be cut: the top is at least a range behind it; whatever lies between.
func TestCutIdle(t *testing.T) {
	for _, x := range []struct {
		times []int64
		want  api.Errno
	}{
		{nil, api.ErrIdle}, {[]int64{5}, api.ErrIdle}, {[]int64{9, 10, 19}, api.ErrIdle}, {[]int64{9, 20}, api.OK}, {[]int64{3, 25}, api.OK},
		{[]int64{10, 29}, api.ErrIdle}, {[]int64{10, 30}, api.OK}, {[]int64{1<<40 - 16, 1<<40 - 1}, api.ErrIdle}, {[]int64{1<<40 - 17, 1<<40 - 1}, api.OK},
	} {
		e := fresh(t, plain())
		takes(t, e, points("a=1", x.times...)...)
		n := 0
		if x.want == api.OK {
			n = 14
		}
		calls(t, "Cut", e, n, 0, func() { ends(t, "Cut", e.Cut(), x.want) })
		if x.want == api.ErrIdle && len(x.times) > 0 {
			has(t, "idle", e, row("a=1", x.times...))
		}
	}
}

// P24.1, P24.2: a Cut of which a call fails: no sample is lost; with one of the log's it is down.
func TestCutFaults(t *testing.T) {
	eachFault(t, "Cut", 14, 2, plain(), func(w *world) { w.taken(some()...) }, func(w *world) api.Errno { return w.e.Cut() })
}

// A Cut that finds no room: for the name, for the block, for the floor (then the block goes again): all is in the head; it is up.
func TestCutFull(t *testing.T) {
	cfg := plain()
	e := fresh(t, cfg)
	takes(t, e, some()...)
	least := e.Disk().Used()
	ends(t, "Cut", e.Cut(), api.OK)
	most := e.Disk().Used()
	full, floors := 0, 0
	for cfg.Room = least; cfg.Room <= most; cfg.Room++ {
		w := newWorld(t, 1, cfg)
		w.taken(some()...)
		free := w.e.Disk().Free()
		calls := tried(w.e.Disk().Arm, w.e.Disk().Try, func() {
			want := api.ErrFull
			if cfg.Room == most {
				want = api.OK
			}
			ends(t, "Cut", w.e.Cut(), want)
		})
		w.hold(t)
		if cfg.Room == most {
			break
		}
		has(t, "full", w.e, row("a=1", 1, 2, 11, 35), row("b=1", 3, 12))
		if l := w.e.Disk().List("blk-"); len(l) != 0 || w.e.Head().Floor() != 0 || free < w.e.Disk().Free() {
			t.Errorf("of %d: %v, floor %d", cfg.Room, l, w.e.Head().Floor())
		}
		// Twelve calls ahead of the floor's, three by which the block goes again.
		switch calls {
		case 15:
			floors++
		case 0, 3:
			full++
		default:
			t.Errorf("of %d: %d calls", cfg.Room, calls)
		}
	}
	if floors < 5 || full < 100 {
		t.Errorf("%d times no room for the floor, %d times ahead of it", floors, full)
	}
}

// No room for the floor, and the block can't be erased again: the first error is told, and no sample is lost.
func TestCutFullFaults(t *testing.T) {
	cfg := plain()
	e := fresh(t, cfg)
	takes(t, e, some()...)
	ends(t, "Cut", e.Cut(), api.OK)
	cfg.Room = e.Disk().Used() - 1
	for i := range 3 {
		for _, done := range []bool{false, true} {
			w := newWorld(t, 1, cfg)
			w.taken(some()...)
			w.e.Disk().Arm(12+i, done)
			ends(t, "Cut", w.e.Cut(), api.ErrFull)
			if !w.e.Up() {
				t.Fatal("it is down")
			}
			has(t, "full", w.e, row("a=1", 1, 2, 11, 35), row("b=1", 3, 12))
			w.hold(t)
			w.e.Crash(1, 2, 3)
			w.mend(t)
			w.hold(t)
		}
	}
}

// A range of more bytes than a block may have can't be cut; it stays in the head.
func TestCutBig(t *testing.T) {
	cfg := Config{Head: head.Config{Series: 1, Samples: 1 << 20, Width: 1 << 20}, Room: 1 << 24, Segment: 1 << 20, Delay: 1, Grace: 1, Patience: 1}
	e := fresh(t, cfg)
	r := rolls(1)
	var l []head.Point
	for at := range int64(130000) {
		l = append(l, head.Point{Labels: set("a=1"), S: api.Sample{T: at, V: uint64(r.below(1<<30))<<34 | uint64(r.below(1<<30))}})
	}
	takes(t, e, append(l, points("a=1", 1<<21)...)...)
	ends(t, "Cut", e.Cut(), api.ErrBig)
	if e.Head().Samples() != len(l)+1 || e.Head().Floor() != 0 || len(e.Disk().List("blk-")) != 0 || !e.Up() {
		t.Errorf("%d samples, %v", e.Head().Samples(), e.Disk().List("blk-"))
	}
}

// A Checkpoint: the log has what is in the head, in one segment; not while there are local blocks.
func TestCheckpoint(t *testing.T) {
	cfg := plain()
	cfg.Segment = 20
	e := fresh(t, cfg)
	ends(t, "nothing", e.Checkpoint(), api.OK)
	for _, p := range some() {
		takes(t, e, p)
	}
	ends(t, "Cut", e.Cut(), api.OK)
	used, segments := e.Disk().Used(), e.Disk().List("wal-")
	calls(t, "busy", e, 0, 0, func() { ends(t, "busy", e.Checkpoint(), api.ErrBusy) })
	if !slices.Equal(e.Disk().List("wal-"), segments) || e.Disk().Used() != used || !e.Up() {
		t.Errorf("%v", e.Disk().List("wal-"))
	}
	until(t, "Ship", api.ErrIdle, e.Ship)
	ends(t, "Checkpoint", e.Checkpoint(), api.OK)
	if l := e.Disk().List("wal-"); len(l) != 1 || slices.Contains(segments, l[0]) {
		t.Errorf("%v, then %v", segments, l)
	}
	want := []merge.Row{row("a=1", 11, 35), row("b=1", 12)}
	for range 3 {
		has(t, "behind it", e, want...)
		if e.Head().Floor() != 10 {
			t.Errorf("the floor: %d", e.Head().Floor())
		}
		e.Crash(4, 4, 4)
		ends(t, "Recover", e.Recover(), api.OK)
	}
	takes(t, e, points("b=1", 13)...)
	ends(t, "Cut", e.Cut(), api.OK)
	ends(t, "busy", e.Checkpoint(), api.ErrBusy)
}

// Files of what isn't a whole local block don't keep it busy.
func TestCheckpointRest(t *testing.T) {
	e := fresh(t, plain())
	takes(t, e, some()...)
	e.Disk().Arm(10, false)
	ends(t, "Cut", e.Cut(), api.ErrIO)
	if l := e.Disk().List("blk-"); len(l) == 0 {
		t.Fatalf("the test's own block: %v", l)
	}
	ends(t, "Checkpoint", e.Checkpoint(), api.OK)
	has(t, "behind it", e, row("a=1", 1, 2, 11, 35), row("b=1", 3, 12))
}

// A Checkpoint that finds no room changes nothing; it is up.
func TestCheckpointFull(t *testing.T) {
	cfg := plain()
	cfg.Room = 120
	e := fresh(t, cfg)
	takes(t, e, some()...)
	used := e.Disk().Used()
	if e.Disk().Free() >= used {
		t.Fatalf("the test's own room: %d", used)
	}
	calls(t, "full", e, 0, 0, func() { ends(t, "full", e.Checkpoint(), api.ErrFull) })
	if e.Disk().Used() != used || !e.Up() {
		t.Errorf("%d bytes, not %d", e.Disk().Used(), used)
	}
	takes(t, e, points("b=1", 13)...)
	e.Crash()
	ends(t, "Recover", e.Recover(), api.OK)
	has(t, "recovered", e, row("a=1", 1, 2, 11, 35), row("b=1", 3, 12, 13))
}

// P24.1, P24.2: a Checkpoint of which a call fails: it is down, and all is there.
func TestCheckpointFaults(t *testing.T) {
	cfg := plain()
	cfg.Segment = 30
	before := func(w *world) {
		for _, p := range some() {
			w.taken(p)
		}
		w.e.Cut()
		for w.e.Ship() == api.OK {
		}
	}
	w := newWorld(t, 1, cfg)
	before(w)
	n := 3 + len(w.e.Disk().List("wal-"))
	if n < 5 {
		t.Fatalf("%d segments", n)
	}
	eachFault(t, "Checkpoint", n, n, cfg, before, func(w *world) api.Errno { return w.e.Checkpoint() })
}

// P24.2: also while it recovers calls fail, and it crashes: it stays down; then it can.
func TestRecoverFaults(t *testing.T) {
	cfg := plain()
	cfg.Segment = 30
	broken := func() *world {
		w := newWorld(t, 1, cfg)
		for _, p := range some() {
			w.taken(p)
		}
		// Half a block, and half an Append.
		w.e.Disk().Arm(9, true)
		ends(t, "Cut", w.e.Cut(), api.ErrIO)
		w.e.Disk().Arm(1, false)
		ends(t, "Append", w.taken(points("c=1", 4, 5)...), api.ErrIO)
		return w
	}
	w := broken()
	n := 2 + len(w.e.Disk().List("wal-"))
	calls(t, "Recover", w.e, n, 0, func() { ends(t, "Recover", w.e.Recover(), api.OK) })
	for i := range n {
		for _, done := range []bool{false, true} {
			for _, x := range ways() {
				w := broken()
				w.e.Disk().Arm(i, done)
				ends(t, "Recover", w.e.Recover(), api.ErrIO)
				if w.e.Up() || w.e.Head() != nil {
					t.Error("it is up")
				}
				w.goOn(t, x)
				w.rest(t)
				if t.Failed() {
					t.Fatalf("call %d fails, done %v, then %v", i, done, x)
				}
			}
		}
	}
}

// Recover tidies up: files of what isn't a whole local block are gone; whole ones stay.
func TestRecoverTidies(t *testing.T) {
	e := fresh(t, plain())
	takes(t, e, some()...)
	ends(t, "Cut", e.Cut(), api.OK)
	e.Disk().Arm(10, false)
	ends(t, "Cut", e.Cut(), api.ErrIO)
	if n := len(e.Disk().List("blk-")); n != 5 {
		t.Fatalf("the test's own blocks: %v", e.Disk().List("blk-"))
	}
	e.Crash()
	ends(t, "Recover", e.Recover(), api.OK)
	if l := e.Disk().List("blk-"); len(l) != 3 || !slices.Equal(ship.Locals(e.Disk()), []string{id(0, 1)}) {
		t.Errorf("%v", l)
	}
	has(t, "recovered", e, row("a=1", 11, 35), row("b=1", 12))
	if got := answered(t, e); !equal(got, []merge.Row{row("a=1", 1, 2, 11, 35), row("b=1", 3, 12)}) {
		t.Errorf("%v", got)
	}
	ends(t, "Ask", e.Ask(1, query.Ask{}), api.OK)
}

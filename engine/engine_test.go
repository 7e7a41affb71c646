package engine

import (
	"math"
	"testing"

	"barograph/api"
	"barograph/head"
	"barograph/ident"
	"barograph/label"
	"barograph/matcher"
	"barograph/merge"
	"barograph/query"
	"barograph/wal"
)

// plain: a Config of much room, with ranges of 10.
func plain() Config {
	return Config{Head: head.Config{Series: 10, Samples: 100, Width: 10}, Room: 1 << 20, Segment: 1000, Delay: 8, Grace: 6, Patience: 5}
}

// set: the labels of a text; none of an empty one.
func set(s string) label.Set {
	l, _ := label.Parse(s)
	return l
}

// points: one of each of these times, whose value is that time.
func points(s string, times ...int64) []head.Point {
	var l []head.Point
	for _, at := range times {
		l = append(l, head.Point{Labels: set(s), S: api.Sample{T: at, V: uint64(at)}})
	}
	return l
}

// row: labels, and samples whose values are their times.
func row(s string, times ...int64) merge.Row {
	r := merge.Row{Labels: set(s)}
	for _, p := range points(s, times...) {
		r.Samples = append(r.Samples, p.S)
	}
	return r
}

// ends: did a call end so?
func ends(t *testing.T, what string, got, wanted api.Errno) {
	t.Helper()
	if got != wanted {
		t.Errorf("%s: %d, not %d", what, got, wanted)
	}
}

// fresh: an engine that is up, with nothing in it.
func fresh(t *testing.T, cfg Config) *Engine {
	t.Helper()
	e, err := New(cfg)
	if err != api.OK || e == nil {
		t.Fatalf("New: %v, %d", e, err)
	}
	return e
}

// takes: points are appended; it must be OK.
func takes(t *testing.T, e *Engine, l ...head.Point) {
	t.Helper()
	if i, err := e.Append(l...); i != -1 || err != api.OK {
		t.Fatalf("Append: %d, %d", i, err)
	}
}

// whole: all that an engine's head has.
func whole(e *Engine) []merge.Row {
	return e.Head().Select(math.MinInt64, math.MaxInt64)
}

// has: has the head of an engine these rows, and no others?
func has(t *testing.T, what string, e *Engine, want ...merge.Row) {
	t.Helper()
	if !e.Up() {
		t.Errorf("%s: it is down", what)
		return
	}
	if got := whole(e); !equal(got, want) {
		t.Errorf("%s: %v, not %v", what, got, want)
	}
}

// tried: how many calls of a device something makes: it works that much less often until its fault comes.
func tried(arm func(after int, done bool) api.Errno, try func() (bool, bool), act func()) int {
	const room = 1000
	arm(room, false)
	act()
	left := 0
	for works, _ := try(); works; works, _ = try() {
		left++
	}
	return room - left
}

// calls: does something make so many calls of the disk, and of the bucket?
func calls(t *testing.T, what string, e *Engine, ofDisk, ofBucket int, act func()) {
	t.Helper()
	b := 0
	d := tried(e.Disk().Arm, e.Disk().Try, func() {
		b = tried(e.Bucket().Arm, e.Bucket().Try, act)
	})
	if d != ofDisk || b != ofBucket {
		t.Errorf("%s: %d calls of the disk, %d of the bucket, not %d, %d", what, d, b, ofDisk, ofBucket)
	}
}

// objects: the names of what a bucket has, rising.
func objects(e *Engine) []string {
	var l []string
	for _, o := range e.Bucket().Look("") {
		l = append(l, o.Name)
	}
	return l
}

// id: the name of a tick, of a number.
func id(tick, seq int) string {
	s, _ := ident.Make(tick, seq)
	return s
}

// answered: what a query of all times and series says, read to its end.
func answered(t *testing.T, e *Engine) []merge.Row {
	t.Helper()
	const n = 77
	ends(t, "Ask", e.Ask(n, query.Ask{To: math.MaxInt64}), api.OK)
	until(t, "Read", api.ErrIdle, func() api.Errno { return e.Read(n) })
	l, err := e.Result(n)
	ends(t, "Result", err, api.OK)
	return l
}

// The chapter's example.
func TestExample(t *testing.T) {
	e := fresh(t, plain())
	takes(t, e, points("a=1", 1, 2, 30)...)
	ends(t, "Cut", e.Cut(), api.OK)
	for range 4 {
		ends(t, "Ship", e.Ship(), api.OK)
	}
	ends(t, "Ship", e.Ship(), api.ErrIdle)
	until(t, "Update", api.ErrIdle, e.Update)
	m, _ := matcher.Parse("a=1")
	ends(t, "Ask", e.Ask(1, query.Ask{From: 0, To: 31, Match: m}), api.OK)
	for range 3 {
		ends(t, "Read", e.Read(1), api.OK)
	}
	ends(t, "Read", e.Read(1), api.ErrIdle)
	if l, err := e.Result(1); err != api.OK || !equal(l, []merge.Row{row("a=1", 1, 2, 30)}) {
		t.Errorf("Result: %v, %d", l, err)
	}
}

// A Config may be, or not; New answers the same error.
func TestConfig(t *testing.T) {
	for i, x := range []struct {
		change func(c *Config)
		want   api.Errno
	}{
		{func(c *Config) {}, api.OK},
		{func(c *Config) { c.Room = 0 }, api.OK},
		{func(c *Config) { c.Room = -1 }, api.ErrArg},
		{func(c *Config) { c.Room = math.MinInt }, api.ErrArg},
		{func(c *Config) { c.Segment = 1 }, api.OK},
		{func(c *Config) { c.Segment = 0 }, api.ErrArg},
		{func(c *Config) { c.Segment = -1 }, api.ErrArg},
		{func(c *Config) { c.Grace = 1 }, api.OK},
		{func(c *Config) { c.Grace = math.MaxInt }, api.OK},
		{func(c *Config) { c.Grace = 0 }, api.ErrArg},
		{func(c *Config) { c.Grace = -1 }, api.ErrArg},
		{func(c *Config) { c.Patience = 1 }, api.OK},
		{func(c *Config) { c.Patience = 0 }, api.ErrArg},
		{func(c *Config) { c.Patience = -1 }, api.ErrArg},
		{func(c *Config) { c.Patience = c.Delay }, api.OK},
		{func(c *Config) { c.Patience = c.Delay + 1 }, api.ErrArg},
		{func(c *Config) { c.Delay, c.Patience = 1, 1 }, api.OK},
		{func(c *Config) { c.Delay = 0 }, api.ErrArg},
		{func(c *Config) { c.Delay, c.Patience = 0, 0 }, api.ErrArg},
		{func(c *Config) { c.Delay, c.Patience = -1, -2 }, api.ErrArg},
		{func(c *Config) { c.Delay, c.Patience = math.MaxInt, math.MaxInt }, api.OK},
		{func(c *Config) { c.Head.Series = 0 }, api.ErrArg},
		{func(c *Config) { c.Head.Samples = 1<<20 + 1 }, api.ErrArg},
		{func(c *Config) { c.Head.Width = 0 }, api.ErrArg},
		{func(c *Config) { *c = Config{} }, api.ErrArg},
	} {
		cfg := plain()
		x.change(&cfg)
		if err := cfg.Check(); err != x.want {
			t.Errorf("%d: Check: %d", i, err)
		}
		if e, err := New(cfg); err != x.want || (e != nil) != (x.want == api.OK) {
			t.Errorf("%d: New: %v, %d", i, e, err)
		}
	}
}

// A new engine is up, and has nothing.
func TestNew(t *testing.T) {
	e := fresh(t, plain())
	if !e.Up() || e.Now() != 0 || e.Head() == nil || e.Head().Samples() != 0 || e.Head().Floor() != 0 {
		t.Errorf("up %v, now %d", e.Up(), e.Now())
	}
	if e.Disk().Used() != 0 || e.Disk().Free() != plain().Room || len(objects(e)) != 0 {
		t.Errorf("%d used, %d free, %v", e.Disk().Used(), e.Disk().Free(), objects(e))
	}
	ends(t, "Recover", e.Recover(), api.ErrThere)
	ends(t, "Cut", e.Cut(), api.ErrIdle)
	ends(t, "Ship", e.Ship(), api.ErrIdle)
	if f := fresh(t, plain()); f.Disk() == e.Disk() || f.Bucket() == e.Bucket() || f.Head() == e.Head() {
		t.Error("two engines have one device")
	}
	cfg := plain()
	cfg.Room = 0
	e = fresh(t, cfg)
	if i, err := e.Append(points("a=1", 1)...); i != -1 || err != api.ErrFull || !e.Up() {
		t.Errorf("no room: %d, %d", i, err)
	}
}

// The disk, the bucket and the head are always the same ones; a crash leaves the first two.
func TestSameDevices(t *testing.T) {
	e := fresh(t, plain())
	d, b, h := e.Disk(), e.Bucket(), e.Head()
	takes(t, e, points("a=1", 1)...)
	if e.Disk() != d || e.Bucket() != b || e.Head() != h {
		t.Error("other ones")
	}
	e.Crash()
	ends(t, "Recover", e.Recover(), api.OK)
	if e.Disk() != d || e.Bucket() != b || e.Head() == h {
		t.Error("behind a crash: other devices, or the same head")
	}
}

// The clock goes on, by 0 to 1000 at once, up or down.
func TestTick(t *testing.T) {
	e := fresh(t, plain())
	now := 0
	for _, x := range [][2]int{{0, 0}, {1, 1}, {7, 7}, {999, 999}, {1000, 1000}, {1001, 1000}, {math.MaxInt, 1000}, {-1, 0}, {math.MinInt, 0}, {3, 3}} {
		e.Tick(x[0])
		now += x[1]
		if e.Now() != now {
			t.Errorf("Tick(%d): %d, not %d", x[0], e.Now(), now)
		}
	}
	e.Crash()
	if e.Now() != now {
		t.Errorf("behind a crash: %d", e.Now())
	}
	e.Tick(5)
	ends(t, "Recover", e.Recover(), api.OK)
	if e.Now() != now+5 {
		t.Errorf("recovered: %d", e.Now())
	}
}

// allEnd: does each call but Recover, Tick and Crash end so, without a call of a device?
func allEnd(t *testing.T, e *Engine, wanted api.Errno) {
	t.Helper()
	bad := query.Ask{Match: []matcher.Matcher{{}}}
	calls(t, "down", e, 0, 0, func() {
		for _, l := range [][]head.Point{nil, points("a=1", 50), points("", 50)} {
			if i, err := e.Append(l...); i != -1 || err != wanted {
				t.Errorf("Append: %d, %d", i, err)
			}
		}
		for i, err := range []api.Errno{
			e.Cut(), e.Checkpoint(), e.Ship(), e.Compact(), e.Sweep(), e.Update(),
			e.Ask(1, query.Ask{}), e.Ask(9, bad), e.Read(1), e.Read(9),
		} {
			if err != wanted {
				t.Errorf("call %d: %d, not %d", i, err, wanted)
			}
		}
		for n := range 3 {
			if l, err := e.Result(n); l != nil || err != wanted {
				t.Errorf("Result: %v, %d", l, err)
			}
		}
	})
}

// When it is down all calls but a few answer ErrDown, whatever else there is to say; K2.
func TestDown(t *testing.T) {
	e := fresh(t, plain())
	takes(t, e, points("a=1", 1, 2, 30, 31)...)
	ends(t, "Cut", e.Cut(), api.OK)
	ends(t, "Ship", e.Ship(), api.OK)
	ends(t, "Ask", e.Ask(1, query.Ask{To: 100}), api.OK)
	e.Crash()
	for range 2 {
		if e.Up() || e.Head() != nil {
			t.Error("it is up")
		}
		allEnd(t, e, api.ErrDown)
	}
	e.Crash(1, 2, 3)
	allEnd(t, e, api.ErrDown)
	ends(t, "Recover", e.Recover(), api.OK)
	has(t, "recovered", e, row("a=1", 30, 31))
}

// What was under way is lost when it goes down: the upload, the queries, the rounds.
func TestLost(t *testing.T) {
	e := fresh(t, plain())
	takes(t, e, points("a=1", 1, 30)...)
	ends(t, "Cut", e.Cut(), api.OK)
	until(t, "Update", api.ErrIdle, e.Update)
	for i, call := range []func() api.Errno{e.Ship, e.Ship, e.Compact, e.Sweep, e.Update} {
		if err := call(); err != api.OK {
			t.Errorf("%d: %d", i, err)
		}
	}
	ends(t, "Ask", e.Ask(1, query.Ask{To: 100}), api.OK)
	e.Crash()
	ends(t, "Recover", e.Recover(), api.OK)
	ends(t, "Read", e.Read(1), api.ErrNone)
	if l, err := e.Result(1); l != nil || err != api.ErrNone {
		t.Errorf("Result: %v, %d", l, err)
	}
	ends(t, "Ask", e.Ask(1, query.Ask{To: 100}), api.OK)
	// Each round begins with one List.
	for i, call := range []func() api.Errno{e.Compact, e.Sweep, e.Update} {
		e.Bucket().Arm(0, false)
		ends(t, "a List that fails", call(), api.ErrIO)
		ends(t, "a List", call(), api.OK)
		if i == 2 {
			ends(t, "the index", call(), api.OK)
		}
		ends(t, "the end", call(), api.ErrIdle)
	}
	e.Tick(1)
	for range 3 {
		ends(t, "Ship", e.Ship(), api.OK)
	}
	// All three were put again.
	for _, o := range e.Bucket().Look(id(0, 1)) {
		if o.At != 1 {
			t.Errorf("%v", o)
		}
	}
}

// Crash hands its choices to the disk, and faults of the disk are gone; those of the bucket aren't.
func TestCrash(t *testing.T) {
	for choice := range 12 {
		e := fresh(t, plain())
		takes(t, e, points("a=1", 1)...)
		sure := e.Disk().Used()
		e.Disk().Arm(1, false)
		if i, err := e.Append(points("a=1", 2)...); i != -1 || err != api.ErrIO {
			t.Fatalf("Append: %d, %d", i, err)
		}
		loose := e.Disk().Used() - sure
		e.Disk().Arm(0, false)
		e.Bucket().Arm(0, false)
		e.Crash(choice)
		if n := e.Disk().Used() - sure; n != choice%(loose+1) {
			t.Errorf("%d of %d bytes are left, not %d", n, loose, choice)
		}
		if s, err := e.Disk().Read(wal.Name(1)); len(s) != e.Disk().Used() || err != api.OK {
			t.Errorf("the log: %d bytes, %d", len(s), err)
		}
		ends(t, "Recover", e.Recover(), api.OK)
		ends(t, "the bucket's fault", e.Sweep(), api.ErrIO)
		want := row("a=1", 1)
		if choice%(loose+1) == loose {
			want = row("a=1", 1, 2)
		}
		has(t, "recovered", e, want)
	}
}

// K3: what is handed in is neither changed nor kept, and what is answered is the caller's own.
func TestOwn(t *testing.T) {
	e := fresh(t, plain())
	l := points("a=1,b=1", 1, 2, 30)
	takes(t, e, l...)
	if !equal([]merge.Row{{Labels: l[0].Labels, Samples: []api.Sample{l[0].S, l[1].S, l[2].S}}}, []merge.Row{row("a=1,b=1", 1, 2, 30)}) {
		t.Errorf("%v", l)
	}
	for i := range l {
		l[i].Labels[0].Value = "9"
	}
	clear(l)
	has(t, "the points are others now", e, row("a=1,b=1", 1, 2, 30))
	m := []matcher.Matcher{{Kind: matcher.Among, Name: "a", Values: []string{"1", "2"}}}
	ends(t, "Ask", e.Ask(1, query.Ask{To: 100, Match: m}), api.OK)
	if matcher.Format(m) != "a@1|2" {
		t.Errorf("%v", m)
	}
	m[0].Values[0], m[0].Values[1] = "7", "8"
	clear(m)
	ends(t, "Cut", e.Cut(), api.OK)
	until(t, "Ship", api.ErrIdle, e.Ship)
	until(t, "Read", api.ErrIdle, func() api.Errno { return e.Read(1) })
	got, err := e.Result(1)
	if err != api.OK || !equal(got, []merge.Row{row("a=1,b=1", 1, 2, 30)}) {
		t.Errorf("%v, %d", got, err)
	}
	for _, r := range got {
		r.Labels[0].Value = "9"
		clear(r.Samples)
	}
	has(t, "the answer is another one now", e, row("a=1,b=1", 30))
	if got := answered(t, e); !equal(got, []merge.Row{row("a=1,b=1", 1, 2, 30)}) {
		t.Errorf("%v", got)
	}
}

// K4: the same calls behind the same calls are answered in the same way.
func TestSame(t *testing.T) {
	for seed := range 5 {
		var told []string
		for range 2 {
			w := newWorld(t, seed, anyConfig(seed))
			for range 200 {
				w.act(t)
			}
			s := ""
			for _, name := range w.e.Disk().List("") {
				data, _ := w.e.Disk().Read(name)
				s += name + data
			}
			for _, o := range w.e.Bucket().Look("") {
				data, _ := w.e.Bucket().Peek(o.Name)
				s += o.Name + data
			}
			told = append(told, s)
		}
		if told[0] != told[1] || told[0] == "" {
			t.Errorf("seed %d: %q, %q", seed, told[0], told[1])
		}
	}
}

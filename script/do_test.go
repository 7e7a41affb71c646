package script

import (
	"fmt"
	"math"
	"strings"
	"testing"

	"barograph/api"
	"barograph/bucket"
	"barograph/disk"
	"barograph/engine"
	"barograph/head"
	"barograph/ident"
	"barograph/merge"
	"barograph/query"
	"barograph/ship"
)

// roomy: a Config of much room, with ranges of 10.
func roomy() engine.Config {
	return engine.Config{Head: head.Config{Series: 10, Samples: 100, Width: 10}, Room: 1 << 20, Segment: 200, Delay: 8, Grace: 6, Patience: 5}
}

// world: one that is up, with nothing in it.
func world(t *testing.T, cfg engine.Config) *World {
	t.Helper()
	w, err := New(cfg)
	if err != api.OK || w == nil || !w.Engine().Up() {
		t.Fatalf("New: %v, %d", w, err)
	}
	return w
}

// steps: of a text that must have some.
func steps(t *testing.T, text string) []Step {
	t.Helper()
	l, n, err := Parse(text)
	if err != api.OK {
		t.Fatalf("%q: line %d", text, n)
	}
	return l
}

// plays: a text is played; is that what is told, line by line?
func plays(t *testing.T, w *World, text, want string) {
	t.Helper()
	if s := w.Play(steps(t, text)); s != want {
		t.Errorf("%q:\n%s, not\n%s", text, s, want)
	}
}

// does: a step is done; is that what it answers?
func does(t *testing.T, w *World, x Step, told string, want api.Errno) {
	t.Helper()
	if s, err := w.Do(x); s != told || err != want {
		t.Errorf("%v: %q, %d, not %q, %d", x, s, err, told, want)
	}
}

// state: all of an engine that shows.
func state(e *engine.Engine) string {
	s := fmt.Sprint(e.Up(), e.Now(), objects(e.Bucket()), files(e.Disk()))
	if e.Up() {
		s += fmt.Sprint(e.Head().Dump(), e.Head().Top())
	}
	return s
}

// files: a disk's names and bytes.
func files(d *disk.Disk) string {
	var b strings.Builder
	for _, name := range d.List("") {
		s, _ := d.Read(name)
		fmt.Fprintf(&b, "%s %q\n", name, s)
	}
	return b.String()
}

// objects: a bucket's names, ticks and bytes.
func objects(b *bucket.Bucket) string {
	var l strings.Builder
	for _, o := range b.Look("") {
		s, _ := b.Peek(o.Name)
		fmt.Fprintf(&l, "%s %d %q\n", o.Name, o.At, s)
	}
	return l.String()
}

// P26.2: the chapter's example.
func TestExample(t *testing.T) {
	plays(t, world(t, roomy()), "append a=1 5 77\nask 1 0 9\nread 1 9\nresult 1\n", "ok\nok\nerror 17\nok a=1 5=77\n")
}

// New's error is engine.New's; no world is answered beside it.
func TestNew(t *testing.T) {
	for i, change := range []func(c *engine.Config){
		func(c *engine.Config) {},
		func(c *engine.Config) { c.Room = 0 },
		func(c *engine.Config) { c.Room = -1 },
		func(c *engine.Config) { c.Head.Series = 0 },
		func(c *engine.Config) { c.Head.Width = 0 },
		func(c *engine.Config) { c.Segment = 0 },
		func(c *engine.Config) { c.Delay = 0 },
		func(c *engine.Config) { c.Grace = 0 },
		func(c *engine.Config) { c.Patience = 0 },
		func(c *engine.Config) { c.Patience = c.Delay + 1 },
		func(c *engine.Config) { *c = engine.Config{} },
	} {
		cfg := roomy()
		change(&cfg)
		w, err := New(cfg)
		if _, want := engine.New(cfg); err != want || (w == nil) != (err != api.OK) {
			t.Errorf("%d: %v, %d, not %d", i, w, err, want)
		}
		if i > 1 && err != api.ErrArg {
			t.Errorf("%d: %d", i, err)
		}
	}
}

// Engine is the one whose steps are done; two worlds have two.
func TestEngine(t *testing.T) {
	w, other := world(t, roomy()), world(t, roomy())
	e := w.Engine()
	plays(t, w, "tick 3\nappend a=1 5 77\ncrash\n", "ok\nok\nok\n")
	if e != w.Engine() || e.Now() != 3 || e.Up() {
		t.Errorf("%d, %v", e.Now(), e.Up())
	}
	if o := other.Engine(); o == e || o.Now() != 0 || !o.Up() || o.Head().Samples() != 0 {
		t.Errorf("the other one: %d, %v", o.Now(), o.Up())
	}
	e.Recover()
	plays(t, w, "recover\ncut\n", "error 6\nerror 17\n")
}

// times: a call, as often as a step says.
func times(n int64, call func() api.Errno) api.Errno {
	err := call()
	for i := int64(1); i < n && i < 1000 && err == api.OK; i++ {
		err = call()
	}
	return err
}

// direct: what a step is to tell, and its error, by calls of an engine.
func direct(e *engine.Engine, x Step) (string, api.Errno) {
	n := append(append([]int64(nil), x.N...), 0, 0, 0)
	q := int(n[0])
	switch x.Kind {
	case 1:
		place, err := e.Append(x.Points...)
		if place >= 0 {
			return fmt.Sprint("at ", place), err
		}
		return "", err
	case 2:
		return "", e.Cut()
	case 3:
		return "", e.Checkpoint()
	case 4, 5, 6, 7:
		return "", times(n[0], []func() api.Errno{e.Ship, e.Compact, e.Sweep, e.Update}[x.Kind-4])
	case 8:
		return "", e.Ask(q, query.Ask{From: n[1], To: n[2], Match: x.Match})
	case 9:
		return "", times(n[1], func() api.Errno { return e.Read(q) })
	case 10:
		rows, err := e.Result(q)
		return told(rows), err
	case 11:
		e.Tick(q)
	case 12:
		var choice []int
		for _, c := range x.N {
			choice = append(choice, int(c))
		}
		e.Crash(choice...)
	case 13:
		return "", e.Recover()
	case 14:
		return "", e.Disk().Arm(q, n[1] == 1)
	case 15:
		return "", e.Bucket().Arm(q, n[1] == 1)
	default:
		return "", api.ErrArg
	}
	return "", api.OK
}

// told: rows as a Result tells them.
func told(rows []merge.Row) string {
	var l []string
	for _, r := range rows {
		s := r.Labels.String()
		for _, x := range r.Samples {
			s += fmt.Sprintf(" %d=%d", x.T, x.V)
		}
		l = append(l, s)
	}
	return strings.Join(l, "; ")
}

// mirrored: steps are done, and their calls made of another engine: are the answers the same, and what shows then?
func mirrored(t *testing.T, cfg engine.Config, l []Step) {
	t.Helper()
	w := world(t, cfg)
	e, _ := engine.New(cfg)
	for i, x := range l {
		s, err := w.Do(x)
		if want, wanted := direct(e, x); s != want || err != wanted {
			t.Fatalf("%d, %v: %q, %d, not %q, %d", i, x, s, err, want, wanted)
		}
		if got, want := state(w.Engine()), state(e); got != want {
			t.Fatalf("%d, %v:\n%s, not\n%s", i, x, got, want)
		}
	}
}

// P26.2: each kind of step is its call.
func TestDo(t *testing.T) {
	mirrored(t, roomy(), steps(t, strings.Join([]string{
		"append a=1 1 10;b=1,c=x 2 20;a=1 25 30", "append a=1 45 40", "append a=1 44 1", "append b=1 50 1;a=1 45 1",
		"cut", "cut", "cut", "checkpoint", "update 9", "ship 1", "ship 2", "tick 1", "ship 9", "checkpoint",
		"ask 7 0 100 a=1", "ask 7 0 100", "ask 8 2 26", "read 7 1", "read 8 99", "read 7 99", "result 9", "result 8", "result 7", "result 7",
		"compact 1", "compact 99", "update 2", "update 99", "tick 9", "sweep 3", "sweep 99", "update 99",
		"disk 1 0", "append a=1 50 50", "append a=1 51 51", "cut", "crash 3 4", "recover", "recover", "ask 1 0 99", "read 1 99", "result 1",
		"disk 0 1", "checkpoint", "crash", "recover", "bucket 1 1", "bucket 0 0", "sweep 99", "sweep 99", "compact 99", "crash 1 2 3", "tick 1000", "tick 1001", "recover", "update 99", "ask 1 0 99", "read 1 99", "result 1",
	}, "\n")))
}

// long: a world of which each step that is done n times has more than a thousand calls of the bucket ahead of it, but for Ship.
func long(t *testing.T) *World {
	t.Helper()
	cfg := roomy()
	cfg.Head.Series, cfg.Head.Samples = 2000, 4000
	w := world(t, cfg)
	var l []head.Point
	for i := range 1500 {
		l = append(l, point(fmt.Sprint("a=", i), 1, uint64(i)))
	}
	does(t, w, Step{Kind: Append, Points: append(l, point("a=1", 21, 1))}, "", api.OK)
	plays(t, w, "cut\nship 9\nupdate 9\nask 1 0 9\n", "ok\nerror 17\nerror 17\nok\n")
	for i := range 1500 {
		id, _ := ident.Make(1, 100+i)
		w.Engine().Bucket().Put(ident.Object(id, ident.Mark), "", 0)
	}
	return w
}

// repeated: the steps of some kind that are done n times, but for Ship.
func repeated(kind int, n int64) Step {
	if kind == Read {
		return numbers(Read, 1, n)
	}
	return numbers(kind, n)
}

// P26.2: a step that is done n times makes its call at least once, at most 1000 times, and no more behind an error.
func TestTimes(t *testing.T) {
	w := long(t)
	b := w.Engine().Bucket()
	for _, kind := range []int{Compact, Sweep, Update, Read} {
		for _, c := range []struct {
			n     int64
			calls int
		}{
			{math.MinInt64, 1}, {-1, 1}, {0, 1}, {1, 1}, {2, 2}, {3, 3}, {17, 17},
		} {
			// The one behind them fails, and none of them.
			b.Arm(c.calls, false)
			does(t, w, repeated(kind, c.n), "", api.OK)
			does(t, w, repeated(kind, 1), "", api.ErrIO)
			// The last one fails: behind it none is made, so that the second fault still waits.
			b.Arm(c.calls-1, false)
			b.Arm(0, false)
			does(t, w, repeated(kind, c.n), "", api.ErrIO)
			does(t, w, repeated(kind, 1), "", api.ErrIO)
			// One in the midst fails.
			if c.calls > 2 {
				b.Arm(1, false)
				b.Arm(0, false)
				does(t, w, repeated(kind, c.n), "", api.ErrIO)
				does(t, w, repeated(kind, 1), "", api.ErrIO)
			}
			does(t, w, repeated(kind, 1), "", api.OK)
		}
	}
	for _, c := range []struct {
		n     int64
		calls int
	}{
		{999, 999}, {1000, 1000}, {1001, 1000}, {1 << 40, 1000}, {math.MaxInt64, 1000},
	} {
		for _, kind := range []int{Compact, Sweep, Update, Read} {
			w := long(t)
			w.Engine().Bucket().Arm(c.calls, false)
			does(t, w, repeated(kind, c.n), "", api.OK)
			does(t, w, repeated(kind, 1), "", api.ErrIO)
		}
	}
	// Without a number it is done once.
	for _, x := range []Step{{Kind: Compact}, {Kind: Sweep}, {Kind: Update}, {Kind: Read, N: []int64{1}}} {
		b.Arm(1, false)
		does(t, w, x, "", api.OK)
		does(t, w, x, "", api.ErrIO)
	}
}

// P26.2: likewise Ship, of whose calls each block's last one is the disk's.
func TestShipTimes(t *testing.T) {
	const blocks = 260
	w := world(t, roomy())
	for i := range blocks + 2 {
		does(t, w, Step{Kind: Append, Points: []head.Point{point("a=1", int64(10*i), 1)}}, "", api.OK)
		if i > 1 {
			does(t, w, numbers(Cut), "", api.OK)
		}
	}
	made := 0
	for _, c := range []struct {
		n     []int64
		calls int
	}{
		{nil, 1}, {[]int64{math.MinInt64}, 1}, {[]int64{0}, 1}, {[]int64{1}, 1}, {[]int64{2}, 2}, {[]int64{10}, 10}, {[]int64{1001}, 1000},
	} {
		does(t, w, numbers(Ship, c.n...), "", api.OK)
		made += c.calls
		if n := len(w.Engine().Bucket().Look("")); n != made/4*3+made%4 {
			t.Errorf("%v: %d objects behind %d calls", c.n, n, made)
		}
		if n := len(ship.Noted(w.Engine().Disk())); n != made/4 {
			t.Errorf("%v: %d notes behind %d calls", c.n, n, made)
		}
	}
	does(t, w, numbers(Ship, 4*blocks), "", api.ErrIdle)
	if n := len(ship.Noted(w.Engine().Disk())); n != blocks {
		t.Errorf("%d notes", n)
	}
}

// P26.2, K2: a step of no such kind is told, and does nothing.
func TestDoNoKind(t *testing.T) {
	w := world(t, roomy())
	plays(t, w, "append a=1 1 1\ncrash\n", "ok\nok\n")
	for range 2 {
		was := state(w.Engine())
		for _, kind := range []int{0, -1, 16, 99, math.MaxInt, math.MinInt} {
			does(t, w, Step{Kind: kind}, "", api.ErrArg)
			does(t, w, Step{Kind: kind, N: []int64{1, 2, 3}, Points: []head.Point{point("a=1", 9, 9)}, Match: match("a=1")}, "", api.ErrArg)
		}
		if s := state(w.Engine()); s != was {
			t.Errorf("%s, not %s", s, was)
		}
		w.Do(numbers(Recover))
	}
	if s := w.Play([]Step{{Kind: 99}, numbers(Tick, 1), {}}); s != "error 1\nok\nerror 1\n" {
		t.Errorf("%q", s)
	}
}

// P26.2: numbers that aren't there are 0; those that are too many play no part.
func TestDoFewNumbers(t *testing.T) {
	for _, c := range []struct{ few, whole Step }{
		{numbers(Ask), numbers(Ask, 0, 0, 0)},
		{numbers(Ask, 3), numbers(Ask, 3, 0, 0)},
		{numbers(Ask, 3, 2), numbers(Ask, 3, 2, 0)},
		{numbers(Ask, 3, 2, 9, 7), numbers(Ask, 3, 2, 9)},
		{numbers(Result), numbers(Result, 0)},
		{numbers(Read), numbers(Read, 0, 0)},
		{numbers(Tick), numbers(Tick, 0)},
		{numbers(Tick, 5, 5), numbers(Tick, 5)},
		{numbers(Cut, 5), numbers(Cut)},
		{numbers(Ship, 1, 2), numbers(Ship, 1)},
		{numbers(Crash), numbers(Crash, 0, 0)},
		{numbers(Disk), numbers(Disk, 0, 0)},
		{numbers(Disk, 2), numbers(Disk, 2, 0)},
		{numbers(Bucket), numbers(Bucket, 0, 0)},
		{numbers(Bucket, 2), numbers(Bucket, 2, 0)},
	} {
		text := "append a=1 1 1;a=1 12 1;a=1 23 1\ncut\nship 9\nask 0 0 0\nread 0 99\ndisk 9 0\n"
		rest := "disk 0 1\nsweep 1\nappend a=1 40 1\nbucket 0 1\ncrash 1\nrecover\nask 1 0 99\nread 1 99\nread 1 99\nresult 1\nresult 3\n"
		one, two := world(t, roomy()), world(t, roomy())
		for _, w := range []*World{one, two} {
			w.Play(steps(t, text))
		}
		a, b := one.Play(append([]Step{c.few}, steps(t, rest)...)), two.Play(append([]Step{c.whole}, steps(t, rest)...))
		if a != b || state(one.Engine()) != state(two.Engine()) {
			t.Errorf("%v: %q, not %q", c.few, a, b)
		}
	}
}

// P26.2: of an Append the place of the first point that may not be is told, beside its error; of one without a place nothing.
func TestAppendTold(t *testing.T) {
	w := world(t, roomy())
	plays(t, w, strings.Join([]string{
		"append a=1 5 1", "append a=1 5 2", "append a=1 4 1", "append a=1 6 1;b=1 1 1;a=1 6 2", "append b=1 1 1;b=1 0 1", "append b=1 " + most + " 1", "append a=1 1099511627775 1;b=1 3 3;b=1 2 2",
		"disk 0 0", "append a=1 7 1", "append a=1 8 1", "",
	}, "\n"), "ok\nerror 11 at 0\nerror 10 at 0\nerror 11 at 2\nerror 10 at 1\nerror 1 at 0\nerror 10 at 2\nok\nerror 8\nerror 9\n")
	w = world(t, roomy())
	does(t, w, Step{Kind: Append}, "", api.OK)
	does(t, w, Step{Kind: Append, Points: []head.Point{{}}}, "at 0", api.ErrLabel)
	does(t, w, Step{Kind: Append, Points: []head.Point{point("a=1", 1, 1), point("a=1", -1, 1)}}, "at 1", api.ErrArg)
	cfg := roomy()
	cfg.Room, cfg.Head.Series = 30, 1
	w = world(t, cfg)
	plays(t, w, "append a=1 1 1;b=1 1 1\nappend a=1 1 1\nappend a=1 2 1\nappend a=1 3 1\n", "error 13 at 1\nok\nok\nerror 7\n")
}

// P26.2: of a Result its rows are told, one behind the other; of one without rows, or with an error, nothing.
func TestResultTold(t *testing.T) {
	w := world(t, roomy())
	plays(t, w, strings.Join([]string{
		"append b=2,c=é 7 " + full + ";a=1 0 0;b=2,c=é 9 1;a=1 30 5",
		"cut", "ask 0 0 " + most, "ask 1 5 9", "ask 2 40 50", "ask 3 0 9 a=1", "ask 4 9 0", "result 0",
		"read 0 9", "read 1 9", "read 2 9", "read 3 9", "read 4 9",
		"result 0", "result 1", "result 2", "result 3", "result 4", "result 5", "result 0",
	}, "\n"), strings.Join([]string{
		"ok", "ok", "ok", "ok", "ok", "ok", "ok", "error 15",
		"error 17", "error 17", "error 17", "error 17", "error 17",
		"ok a=1 0=0 30=5; b=2,c=é 7=" + full + " 9=1", "ok b=2,c=é 7=" + full, "ok", "ok a=1 0=0", "ok", "error 5", "error 5", "",
	}, "\n"))
	does(t, w, numbers(Result, 1), "", api.ErrNone)
	plays(t, w, "ask 1 0 9\n", "ok\n")
	does(t, w, numbers(Result, 1), "", api.ErrBusy)
	plays(t, w, "read 1 9\n", "error 17\n")
	does(t, w, numbers(Result, 1), "a=1 0=0; b=2,c=é 7="+full, api.OK)
	// One that ended with an error.
	plays(t, w, "ask 1 0 9\ntick 9\nread 1 9\n", "ok\nok\nerror 14\n")
	does(t, w, numbers(Result, 1), "", api.ErrStale)
}

// P26.2: while it is down only the clock, a crash, a recovery and faults go on.
func TestDown(t *testing.T) {
	w := world(t, roomy())
	plays(t, w, "append a=1 1 1\nask 1 0 9\ncrash\n", "ok\nok\nok\n")
	plays(t, w, "append a=1 2 2\ncut\ncheckpoint\nship 2\ncompact 2\nsweep 2\nupdate 2\nask 1 0 9\nread 1 2\nresult 1\nask 2 0 9\n", strings.Repeat("error 9\n", 11))
	does(t, w, Step{Kind: Append, Points: []head.Point{{}}}, "", api.ErrDown)
	plays(t, w, "tick 2\ncrash 1\nbucket 0 0\ncrash\nrecover\n", "ok\nok\nok\nok\nok\n")
	if now := w.Engine().Now(); now != 2 {
		t.Errorf("%d", now)
	}
	plays(t, w, "read 1 1\nresult 1\nupdate 1\nask 1 0 9\nread 1 2\nresult 1\n", "error 5\nerror 5\nerror 8\nok\nerror 17\nok a=1 1=1\n")
}

// P26.2: a device's faults wait in a row, at most 16; what fails is done, if the second number is 1.
func TestFaults(t *testing.T) {
	for _, word := range []string{"disk", "bucket"} {
		w := world(t, roomy())
		plays(t, w, strings.Repeat(word+" 1 0\n", 17), strings.Repeat("ok\n", 16)+"error 7\n")
	}
	for d, there := range map[string]bool{"0": false, "1": true, "2": false, most: false} {
		w := world(t, roomy())
		plays(t, w, "disk 0 "+d+"\nappend a=1 1 1\ncrash 999\n", "ok\nerror 8\nok\n")
		if s, _ := w.Engine().Disk().Read("wal-00000001"); (s != "") != there {
			t.Errorf("disk 0 %s: %q", d, s)
		}
		plays(t, w, "recover\nbucket 1 "+d+"\nupdate 1\nupdate 1\n", "ok\nok\nok\nerror 8\n")
		if _, is := w.Engine().Bucket().Peek("index"); is != there {
			t.Errorf("bucket 1 %s: %v", d, is)
		}
	}
}

// P26.2: the clock goes on by 0 to 1000.
func TestTick(t *testing.T) {
	w := world(t, roomy())
	now := 0
	for _, c := range []struct {
		n     int64
		ticks int
	}{{0, 0}, {1, 1}, {1000, 1000}, {1001, 1000}, {1 << 40, 1000}, {math.MaxInt64, 1000}, {-1, 0}, {math.MinInt64, 0}} {
		does(t, w, numbers(Tick, c.n), "", api.OK)
		now += c.ticks
		if got := w.Engine().Now(); got != now {
			t.Errorf("%d: %d, not %d", c.n, got, now)
		}
	}
}

// P26.2: a crash's choices are those of its line, in their order.
func TestCrashChoices(t *testing.T) {
	for _, c := range []struct {
		text string
		want string
	}{
		{"crash", "0 0"}, {"crash 0", "0 0"}, {"crash 1", "1 0"}, {"crash 1 2", "1 2"}, {"crash 2 1 9", "2 1"}, {"crash 4 3", "0 3"}, {"crash 0 5", "0 1"}, {"crash 1099511627776 " + most, "0 0"},
	} {
		w := world(t, roomy())
		w.Engine().Disk().Append("a", "xyz")
		w.Engine().Disk().Append("b", "xyz")
		plays(t, w, c.text, "ok\n")
		a, _ := w.Engine().Disk().Read("a")
		b, _ := w.Engine().Disk().Read("b")
		if s := fmt.Sprint(len(a), " ", len(b)); s != c.want {
			t.Errorf("%s: %s, not %s", c.text, s, c.want)
		}
	}
}

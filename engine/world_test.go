package engine

import (
	"maps"
	"math"
	"slices"
	"testing"

	"barograph/api"
	"barograph/block"
	"barograph/bucket"
	"barograph/disk"
	"barograph/head"
	"barograph/ident"
	"barograph/ledger"
	"barograph/listing"
	"barograph/matcher"
	"barograph/merge"
	"barograph/meta"
	"barograph/plan"
	"barograph/query"
	"barograph/ship"
	"barograph/sweep"
)

// rolls: numbers that follow from where they begin, and from nothing else.
type rolls uint64

func (r *rolls) below(n int) int {
	*r = *r*6364136223846793005 + 1442695040888963407
	return int(uint64(*r)>>33) % n
}

// asked is what a query was asked for, and what had to be there then.
type asked struct {
	ask query.Ask
	low []merge.Row
}

// told is how often calls ended in some way.
type told struct {
	appends, refused, full, torn, crashes, recovered, cuts, checkpoints, sent, renamed, answered, stale int
}

// world: an engine, what must be there, and what is asked.
type world struct {
	rolls
	told
	cfg   Config
	e     *Engine
	book  ledger.Ledger
	asks  map[int]asked
	times map[string]int64 // by series: the last one that was tried
	value uint64           // of the last sample that was tried: no two have the same
	top   int64
	seen  map[string][]merge.Row // the tables of the bucket's blocks, by names
}

// newWorld: of a seed, of a Config.
func newWorld(t *testing.T, seed int, cfg Config) *world {
	t.Helper()
	e, err := New(cfg)
	if err != api.OK {
		t.Fatalf("New: %d", err)
	}
	return &world{rolls: rolls(seed), cfg: cfg, e: e, asks: map[int]asked{}, times: map[string]int64{}, seen: map[string][]merge.Row{}}
}

// blockOf: a block of a bucket; false: it has no meta.
func blockOf(b *bucket.Bucket, id string) (block.Files, bool) {
	said, there := b.Peek(ident.Object(id, ident.Meta))
	m, err := meta.Decode(said)
	if !there || err != api.OK {
		return block.Files{}, false
	}
	f := block.Files{Meta: m}
	f.Chunks, _ = b.Peek(ident.Object(id, ident.Chunks))
	f.Index, _ = b.Peek(ident.Object(id, ident.Index))
	return f, true
}

// listed: what is in a bucket, as of a tick.
func listed(b *bucket.Bucket, at int) listing.Listing {
	var names []string
	for _, o := range b.Look("") {
		names = append(names, o.Name)
	}
	return listing.Of(at, names, b.Peek)
}

// localTable: that of a local block.
func localTable(t *testing.T, d *disk.Disk, id string) []merge.Row {
	t.Helper()
	f, err := ship.Load(d, id)
	if err != api.OK {
		t.Fatalf("Load: %d", err)
	}
	table, err := f.Table()
	if err != api.OK {
		t.Fatalf("Table: %d", err)
	}
	return table
}

// there: all samples of an engine that is up: of its head, of its local blocks, of the live blocks of its bucket.
func (w *world) there(t *testing.T) []merge.Row {
	t.Helper()
	tables := [][]merge.Row{w.e.Head().Select(math.MinInt64, math.MaxInt64)}
	for _, id := range ship.Locals(w.e.Disk()) {
		tables = append(tables, localTable(t, w.e.Disk(), id))
	}
	for _, m := range listed(w.e.Bucket(), 0).Live() {
		if _, known := w.seen[m.ID]; !known {
			f, _ := blockOf(w.e.Bucket(), m.ID)
			table, err := f.Table()
			if err != api.OK {
				t.Errorf("P24.1: the live block %s: %d", m.ID, err)
			}
			w.seen[m.ID] = table
		}
		tables = append(tables, w.seen[m.ID])
	}
	return merge.Tables(tables...)
}

// equal: have two tables the same rows?
func equal(a, b []merge.Row) bool {
	return slices.EqualFunc(a, b, func(x, y merge.Row) bool {
		return slices.Equal(x.Labels, y.Labels) && slices.Equal(x.Samples, y.Samples)
	})
}

// hold: what must hold behind each call.
func (w *world) hold(t *testing.T) {
	t.Helper()
	w.whole(t)
	if !w.e.Up() {
		return
	}
	if now := w.there(t); w.book.Open() == 0 && !equal(now, w.book.Sure()) {
		t.Errorf("P24.1: %v, not %v", now, w.book.Sure())
	}
}

// whole: P24.4.
func (w *world) whole(t *testing.T) {
	t.Helper()
	l := listed(w.e.Bucket(), 0)
	for _, m := range l.Metas {
		at, marked := l.Marks[m.ID]
		if marked && w.e.Now()-at > w.cfg.Delay {
			continue
		}
		f, _ := blockOf(w.e.Bucket(), m.ID)
		if !m.Files[0].Holds(f.Chunks) || !m.Files[1].Holds(f.Index) {
			t.Errorf("P24.4: %s isn't whole at %d; its mark: %v, %d", m.ID, w.e.Now(), marked, at)
		}
	}
}

// points: some points of times that rise, now and then not.
func (w *world) points() []head.Point {
	var l []head.Point
	names := []string{"a=1", "a=1,b=1", "a=2", "b=1", "c=3"}
	for range 1 + w.below(4) {
		name := names[w.below(len(names))]
		at := max(w.times[name]+1, w.top-9) + int64(w.below(4))
		if w.below(25) == 0 {
			at -= int64(w.below(15))
		}
		w.times[name], w.top = at, max(w.top, at)
		w.value++
		l = append(l, head.Point{Labels: set(name), S: api.Sample{T: at, V: w.value}})
	}
	return l
}

// take: points are appended.
func (w *world) take(t *testing.T) {
	t.Helper()
	l := w.points()
	was := w.e.Up()
	place, err := w.e.Append(l...)
	if (err == api.ErrDown) == was || was && (err == api.ErrIO) == w.e.Up() {
		t.Errorf("Append: %d; up %v, then %v", err, was, w.e.Up())
	}
	switch err {
	case api.OK:
		w.book.Done(l...)
		w.appends++
	case api.ErrIO:
		w.book.Tried(l...)
		w.torn++
	case api.ErrFull:
		w.full++
	default:
		w.refused++
	}
	if err == api.OK || err == api.ErrIO || err == api.ErrFull || err == api.ErrDown {
		if place != -1 {
			t.Errorf("Append: %d, %d", place, err)
		}
	}
	w.down()
}

// down: what is asked is lost, if it is.
func (w *world) down() {
	if !w.e.Up() {
		clear(w.asks)
	}
}

// mend: it recovers; what is there then is what may be.
func (w *world) mend(t *testing.T) {
	t.Helper()
	was := w.e.Up()
	err := w.e.Recover()
	if was != (err == api.ErrThere) || err != api.OK && err != api.ErrThere && err != api.ErrIO {
		t.Errorf("Recover: %d", err)
	}
	if err != api.OK {
		return
	}
	w.recovered++
	now := w.there(t)
	if err := w.book.Settle(now); err != api.OK {
		t.Errorf("P24.2: %d: %v; it must be %v, and may be %v", err, now, w.book.Sure(), w.book.May())
	}
}

// crash: with some choices.
func (w *world) crash() {
	var choice []int
	for range w.below(4) {
		choice = append(choice, w.below(100))
	}
	w.e.Crash(choice...)
	w.crashes++
	w.down()
}

// ask: a query of whatever times and labels.
func (w *world) ask(t *testing.T) {
	t.Helper()
	match, _ := matcher.Parse([]string{"", "", "a=1", "a!=1", "b^1", "a@1|2"}[w.below(6)])
	from := int64(w.below(int(w.top)+10)) - 5
	a := query.Ask{From: from, To: from + int64(w.below(int(w.top)+10)), Match: match}
	n := w.below(4)
	_, busy := w.asks[n]
	switch err := w.e.Ask(n, a); {
	case err == api.OK && !busy:
		w.asks[n] = asked{ask: a, low: w.book.Sure()}
	case err == api.ErrBusy && busy, err == api.ErrDown && !w.e.Up():
	default:
		t.Errorf("Ask: %d", err)
	}
}

// result: what a query is answered, when it has ended.
func (w *world) result(t *testing.T, n int) {
	t.Helper()
	x, there := w.asks[n]
	got, err := w.e.Result(n)
	if !there {
		if err != api.ErrNone && w.e.Up() {
			t.Errorf("Result of no query: %d", err)
		}
		return
	}
	switch err {
	case api.ErrBusy:
		return
	case api.OK:
		w.answered++
		if err := w.book.Answers(x.ask, x.low, got); err != api.OK {
			t.Errorf("P24.3: %d: %v: %v, not from %v to %v", err, x.ask, got, x.ask.Of(x.low), x.ask.Of(w.book.May()))
		}
	case api.ErrStale:
		w.stale++
	default:
		t.Errorf("Result: %d", err)
	}
	delete(w.asks, n)
}

// count: one more, if it is OK.
func count(n *int, err api.Errno) {
	if err == api.OK {
		*n++
	}
}

// often: some calls, one behind the other, at most so many.
func (w *world) often(most int, call func() api.Errno) {
	for range 1 + w.below(most) {
		call()
	}
}

// act: one of all.
func (w *world) act(t *testing.T) {
	t.Helper()
	switch n := w.below(200); {
	case !w.e.Up() && n < 30:
		w.mend(t)
	case n < 20:
		w.take(t)
	case n < 40:
		count(&w.cuts, w.e.Cut())
	case n < 45:
		w.ask(t)
	case n < 48:
		count(&w.checkpoints, w.e.Checkpoint())
	case n < 75:
		w.often(30, w.ship)
	case n < 95:
		w.often(30, w.e.Compact)
	case n < 115:
		w.often(30, w.e.Sweep)
	case n < 135:
		w.often(30, w.e.Update)
	case n < 142:
		w.ask(t)
	case n < 165:
		w.often(30, func() api.Errno { return w.e.Read(w.below(4)) })
	case n < 175:
		for n := range 4 {
			w.result(t, n)
		}
	case n < 185:
		w.e.Tick(w.below(3))
	case n < 186:
		w.e.Tick(w.below(40))
	case n < 190:
		w.e.Disk().Arm(w.below(12), w.below(2) == 0)
	case n < 194:
		w.e.Bucket().Arm(w.below(6), w.below(2) == 0)
	case n < 196:
		w.crash()
	default:
		w.mend(t)
	}
	w.down()
}

// ship: a step, and whether it renamed a block, or sent one.
func (w *world) ship() api.Errno {
	locals, notes := ship.Locals(w.e.Disk()), len(ship.Noted(w.e.Disk()))
	err := w.e.Ship()
	after := ship.Locals(w.e.Disk())
	if err == api.OK && len(after) == len(locals) && !slices.Equal(after, locals) {
		w.renamed++
	}
	if err == api.OK && len(ship.Noted(w.e.Disk())) > notes {
		w.sent++
	}
	return err
}

// until: calls, until one ends so.
func until(t *testing.T, what string, wanted api.Errno, call func() api.Errno) {
	t.Helper()
	for range 20000 {
		if call() == wanted {
			return
		}
	}
	t.Fatalf("P24.5: %s: it doesn't come to rest", what)
}

// rest: nothing fails any more, and no points come; the clock goes on.
func (w *world) rest(t *testing.T) {
	t.Helper()
	for !w.e.Up() {
		w.mend(t)
	}
	for range 6 {
		w.e.Tick(100)
		until(t, "Ship", api.ErrIdle, w.e.Ship)
		w.hold(t)
		// Of each the rest of a round, then a whole one of now.
		for range 2 {
			until(t, "Compact", api.ErrIdle, w.e.Compact)
			w.hold(t)
			until(t, "Sweep", api.ErrIdle, w.e.Sweep)
			w.hold(t)
			until(t, "Update", api.ErrIdle, w.e.Update)
		}
	}
	w.atRest(t)
}

// atRest: P24.5.
func (w *world) atRest(t *testing.T) {
	t.Helper()
	d, b, now := w.e.Disk(), w.e.Bucket(), w.e.Now()
	if l := ship.Locals(d); len(l) > 0 {
		t.Errorf("P24.5: local blocks: %v", l)
	}
	if l := ship.Noted(d); len(l) > 0 {
		t.Errorf("P24.5: notes: %v", l)
	}
	l := listed(b, now)
	if p, there := plan.Next(l, w.cfg.Head.Width); there {
		t.Errorf("P24.5: a plan: %v", p)
	}
	if names := plan.ToMark(l); len(names) > 0 {
		t.Errorf("P24.5: to be marked: %v", names)
	}
	if names := sweep.Victims(sweep.Config{Delay: w.cfg.Delay, Grace: w.cfg.Grace}, now, b.Look(""), l.Marks); len(names) > 0 {
		t.Errorf("P24.5: to be deleted: %v", names)
	}
	for _, o := range b.Look("") {
		if id, part, is := ident.Split(o.Name); is && part == ident.Mark {
			t.Errorf("P24.5: the mark of %s", id)
		}
	}
	said, _ := b.Peek(listing.Name)
	index, err := listing.Decode(said)
	if err != api.OK || !maps.Equal(index.Marks, l.Marks) || listing.Encode(listing.New(now, index.Metas, index.Marks)) != listing.Encode(l) {
		t.Errorf("P24.5: the index: %v, %d, not %v", index, err, l)
	}
	a := query.Ask{To: math.MaxInt64}
	if err := w.e.Ask(9, a); err != api.OK {
		t.Errorf("P24.5: Ask: %d", err)
	}
	until(t, "Read", api.ErrIdle, func() api.Errno { return w.e.Read(9) })
	if got, err := w.e.Result(9); err != api.OK || !equal(got, w.book.Sure()) {
		t.Errorf("P24.5: %d: %v, not %v", err, got, w.book.Sure())
	}
}

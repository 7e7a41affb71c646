package query

import (
	"testing"

	"barograph/api"
	"barograph/block"
	"barograph/bucket"
	"barograph/compact"
	"barograph/ident"
	"barograph/merge"
	"barograph/meta"
	"barograph/scan"
	"barograph/ship"
	"barograph/sweep"
)

// asked is a query on its way: what was there when it was asked for, and when it was last read.
type asked struct {
	query *Query
	ask   Ask
	low   []merge.Row
	read  int
}

// world: a bucket into which blocks are shipped, where they are made one and deleted, whose index is kept, and of which queries are asked.
type world struct {
	rolls
	delay, grace, patience int
	bucket                 *bucket.Bucket
	locals                 []block.Files // of which no note says yet that they are shipped
	notes                  []ship.Sent
	upload                 *ship.Upload
	comp                   *compact.Compactor
	sweep                  *sweep.Sweeper
	update                 *scan.Update
	queries                []*asked
	now, seq               int
	all                    []merge.Row // the samples that there ever were
	good, late, other      int         // how queries ended
}

func newWorld(seed int) *world {
	w := &world{rolls: rolls(seed), bucket: bucket.New()}
	w.delay, w.grace = 5+w.below(40), 5+w.below(30)
	w.patience = 1 + w.below(w.delay)
	w.crash()
	return w
}

// crash: what is in memory is lost.
func (w *world) crash() {
	w.upload, w.queries = nil, nil
	w.comp = compact.New(compact.Config{Width: 10, Grace: w.grace, Patience: w.patience})
	w.sweep = sweep.New(sweep.Config{Delay: w.delay, Grace: w.grace, Patience: w.patience})
	w.update = scan.NewUpdate()
}

// next: a name of now, that no other one has.
func (w *world) next() (string, api.Errno) {
	w.seq++
	return ident.Make(w.now, w.seq)
}

// named: a block of a name of now.
func (w *world) named(t *testing.T, from, to int64, table []merge.Row) block.Files {
	t.Helper()
	name, _ := w.next()
	f, err := block.Build(name, from, to, 1, nil, table)
	if err != api.OK {
		t.Fatalf("the test's own block: %d", err)
	}
	return f
}

// come: a local block more, of samples that nothing says otherwise.
func (w *world) come(t *testing.T) {
	t.Helper()
	from := int64(10 * w.below(12))
	var table []merge.Row
	for _, name := range []string{"a=1", "b=1"} {
		r := row(name)
		for at := from + int64(w.below(5)); at < from+10; at += 1 + int64(w.below(6)) {
			r.Samples = append(r.Samples, row(name, at).Samples...)
		}
		table = append(table, r)
	}
	w.locals = append(w.locals, w.named(t, from, from+10, table))
	w.all = merge.Tables(w.all, table)
}

// ship: what comes next of the first local block: a new name, its upload, a note.
func (w *world) ship(t *testing.T) {
	t.Helper()
	switch {
	case w.upload == nil && len(w.locals) == 0:
	case w.upload == nil:
		f := w.locals[0]
		if ship.Late(f.Meta.ID, w.now, w.grace) {
			table, _ := f.Table()
			w.locals[0] = w.named(t, f.Meta.Min, f.Meta.Max, table)
		}
		w.upload = ship.NewUpload(w.locals[0])
	case w.upload.Done():
		w.notes = append(w.notes, ship.Sent{Meta: w.locals[0].Meta, At: w.now})
		w.locals, w.upload = w.locals[1:], nil
	default:
		if w.upload.Step(w.bucket, w.now, w.grace) == api.ErrStale {
			w.upload = nil
		}
	}
}

// keep: a Step of the update; when it is done, notes of what was sent ahead of its scan are forgotten.
func (w *world) keep() {
	if !w.update.Done() {
		w.update.Step(w.bucket, w.now, w.patience)
		return
	}
	var kept []ship.Sent
	for _, s := range w.notes {
		if s.At >= w.update.At() {
			kept = append(kept, s)
		}
	}
	w.notes, w.update = kept, scan.NewUpdate()
}

// ask: a query more, of whatever times and labels.
func (w *world) ask() {
	from := int64(w.below(130) - 5)
	a := asks(from, from+int64(w.below(130)), []string{"", "", "a=1", "a="}[w.below(4)])
	var tables [][]merge.Row
	for _, f := range w.locals {
		table, _ := f.Table()
		tables = append(tables, table)
	}
	w.queries = append(w.queries, &asked{query: New(a, w.delay, w.notes, tables...), ask: a, low: w.all})
}

// within: has great each sample of small?
func within(small, great []merge.Row) bool {
	return equal(merge.Tables(small, great), great)
}

// read: a Step of some query; when it ends it has all that was there when it was asked for, and nothing that isn't now.
func (w *world) read(t *testing.T) {
	t.Helper()
	if len(w.queries) == 0 {
		w.ask()
		return
	}
	i := w.below(len(w.queries))
	x := w.queries[i]
	if x.query.Step(w.bucket, w.now) == api.OK {
		x.read = w.now
	}
	if !x.query.Ended() {
		return
	}
	w.queries = append(w.queries[:i], w.queries[i+1:]...)
	got, err := x.query.Result()
	switch {
	case err == api.ErrStale:
		w.late++
	case err != api.OK:
		w.other++
	default:
		w.good++
		if !within(x.ask.Of(x.low), got) || !within(got, x.ask.Of(w.all)) {
			t.Errorf("P4: %v: %v, not from %v to %v", x.ask, got, x.ask.Of(x.low), x.ask.Of(w.all))
		}
		if x.read-x.query.At() > w.delay {
			t.Errorf("P23.3: read at %d, of an index of %d", x.read, x.query.At())
		}
	}
}

// act: one of all.
func (w *world) act(t *testing.T) {
	t.Helper()
	w.now += w.below(12) / 11
	switch n := w.below(100); {
	case n == 0 && w.below(4) == 0:
		w.crash()
	case n == 1 && w.below(4) == 0:
		w.now += w.below(30)
	case n < 6:
		w.comp.Again()
		if w.sweep.Done() {
			w.sweep.Again()
		}
	case n < 9:
		w.bucket.Arm(w.below(4), w.below(2) == 0)
	case n < 11:
		w.come(t)
	case n < 25:
		w.ship(t)
	case n < 45:
		w.comp.Step(w.bucket, w.now, w.next)
	case n < 60:
		w.sweep.Step(w.bucket, w.now)
	case n < 80:
		w.keep()
	default:
		w.read(t)
	}
}

// P4, P23.1, P23.3: while blocks are shipped, made one and deleted, and the index comes behind, and whatever fails, or crashes, between: a query that ends with OK has all that was there when it was asked for, and nothing that wasn't when it ended.
func TestAllTogether(t *testing.T) {
	good, late, other := 0, 0, 0
	for seed := range 60 {
		w := newWorld(seed)
		for i := range 3000 {
			w.act(t)
			if t.Failed() {
				t.Fatalf("seed %d, %d", seed, i)
			}
		}
		good, late, other = good+w.good, late+w.late, other+w.other
	}
	t.Logf("%d good, %d late, %d with other errors", good, late, other)
	if good < 1000 || late < 100 || other > 0 {
		t.Errorf("%d good, %d late, %d with other errors", good, late, other)
	}
}

// P23.2: of a bucket that doesn't change: the index, what was sent since, and the tables together are all.
func TestAtRest(t *testing.T) {
	b := two(t)
	know(b, 7, first(t))
	m := second(t).Meta
	for _, notes := range [][]ship.Sent{{{Meta: m, At: 7}}, {{Meta: m, At: 9}, {Meta: first(t).Meta, At: 6}}} {
		q := New(all(), 5, notes, []merge.Row{row("c=1", 2)})
		for i := range 100 {
			b.Arm(i%3, i%2 == 0)
			q.Step(b, 7+i%6)
		}
		b.Clear()
		has(t, "at rest", q, 7, append(ofBoth(), row("c=1", 2))...)
	}
	if !m.Meets(all().From, all().To) || meta.Of(ident.Index, second(t).Index) != m.Files[1] {
		t.Errorf("%v", m)
	}
}

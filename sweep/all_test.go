package sweep

import (
	"maps"
	"slices"
	"testing"

	"barograph/api"
	"barograph/block"
	"barograph/bucket"
	"barograph/compact"
	"barograph/ident"
	"barograph/label"
	"barograph/merge"
	"barograph/meta"
	"barograph/ship"
)

// world: a bucket into which blocks are shipped, a compactor and a sweeper of it, and what must hold, whatever fails between.
type world struct {
	rolls
	delay, grace, patience int
	bucket                 *bucket.Bucket
	upload                 *ship.Upload
	comp                   *compact.Compactor
	sweep                  *Sweeper
	now, seq               int
	all                    []merge.Row            // the samples of all blocks that there ever were
	blocks                 map[string][]merge.Row // the tables of all of these
	marks                  map[string]int         // the marks that there ever were
	seen                   []bucket.Info
}

func newWorld(seed int) *world {
	w := &world{rolls: rolls(seed), bucket: bucket.New(), blocks: map[string][]merge.Row{}, marks: map[string]int{}}
	w.delay, w.grace = 1+w.below(30), 1+w.below(30)
	w.patience = 1 + w.below(w.delay)
	w.crash()
	return w
}

// crash: what is in memory is lost.
func (w *world) crash() {
	w.upload = nil
	w.comp = compact.New(compact.Config{Width: 10, Grace: w.grace, Patience: w.patience})
	w.sweep = New(Config{Delay: w.delay, Grace: w.grace, Patience: w.patience})
}

// next: a name of now, that no other one has.
func (w *world) next() (string, api.Errno) {
	w.seq++
	return ident.Make(w.now, w.seq)
}

// ship: a Step of the upload, or a block more is to be shipped.
func (w *world) ship(t *testing.T) {
	t.Helper()
	if w.upload != nil {
		if err := w.upload.Step(w.bucket, w.now, w.grace); err == api.ErrStale || w.upload.Done() {
			w.upload = nil
		}
		return
	}
	from := int64(10 * w.below(12))
	var table []merge.Row
	for i, name := range []string{"a=1", "b=1"} {
		labels, _ := label.Parse(name)
		r := merge.Row{Labels: labels}
		for at := from + int64(w.below(5)); at < from+10; at += 1 + int64(w.below(6)) {
			// What is said of a series and a time is always the same.
			r.Samples = append(r.Samples, api.Sample{T: at, V: uint64(at)*5 + uint64(i)})
		}
		table = append(table, r)
	}
	name, _ := w.next()
	f, err := block.Build(name, from, from+10, 1, nil, table)
	if err != api.OK {
		t.Fatalf("the test's own block: %d", err)
	}
	w.upload = ship.NewUpload(f)
}

// whole: the block of a meta: its files must be whole.
func (w *world) whole(t *testing.T, name string) block.Files {
	t.Helper()
	said, _ := w.bucket.Peek(ident.Object(name, ident.Meta))
	m, err := meta.Decode(said)
	f := block.Files{Meta: m}
	f.Chunks, _ = w.bucket.Peek(ident.Object(name, ident.Chunks))
	f.Index, _ = w.bucket.Peek(ident.Object(name, ident.Index))
	if err != api.OK || !m.Files[0].Holds(f.Chunks) || !m.Files[1].Holds(f.Index) {
		t.Errorf("P22.3: %s isn't whole", name)
	}
	return f
}

// hold: each meta is one of a whole block; each new mark is one of a block that another one has as a source; the live blocks have all samples that there ever were.
func (w *world) hold(t *testing.T) {
	t.Helper()
	now := w.bucket.Look("")
	if slices.Equal(now, w.seen) {
		return
	}
	w.seen = now
	there, sources := map[string]block.Files{}, map[string]int{}
	for _, o := range now {
		name, part, _ := ident.Split(o.Name)
		if part != ident.Meta {
			continue
		}
		there[name] = w.whole(t, name)
		for _, source := range there[name].Meta.Sources {
			sources[source]++
		}
		if _, known := w.blocks[name]; !known {
			table, _ := there[name].Table()
			w.blocks[name] = table
			w.all = merge.Tables(w.all, table)
		}
	}
	for _, o := range now {
		name, part, _ := ident.Split(o.Name)
		if _, known := w.marks[name]; part == ident.Mark && !known {
			w.marks[name] = w.now
			if sources[name] == 0 {
				t.Errorf("P21.2: %s is marked", name)
			}
		}
	}
	var live []merge.Row
	for _, name := range slices.Sorted(maps.Keys(there)) {
		if sources[name] == 0 {
			live = merge.Tables(live, w.blocks[name])
		}
	}
	if !slices.EqualFunc(live, w.all, func(a, b merge.Row) bool {
		return slices.Equal(a.Labels, b.Labels) && slices.Equal(a.Samples, b.Samples)
	}) {
		t.Errorf("P21.1: %v, not %v", live, w.all)
	}
}

// act: one of all.
func (w *world) act(t *testing.T) {
	t.Helper()
	w.now += w.below(6) / 5
	switch n := w.below(60); {
	case n == 0:
		w.crash()
	case n == 1:
		w.now += w.below(30)
	case n < 4:
		w.comp.Again()
		if w.sweep.Done() {
			w.sweep.Again()
		}
	case n < 10:
		w.bucket.Arm(w.below(4), w.below(2) == 0)
	case n < 18:
		w.ship(t)
	case n < 40:
		w.comp.Step(w.bucket, w.now, w.next)
	default:
		w.sweep.Step(w.bucket, w.now)
	}
}

// rest: nothing fails, and nothing comes any more; the clock goes on.
func (w *world) rest(t *testing.T) {
	t.Helper()
	w.bucket.Clear()
	for range 6 {
		w.now += 100
		w.comp.Again()
		for n := 0; w.comp.Stage() != compact.Resting; n++ {
			w.comp.Step(w.bucket, w.now, w.next)
			if n > 10000 {
				t.Fatal("P21.3: it doesn't come to rest")
			}
			w.hold(t)
		}
		w.sweep.Again()
		for !w.sweep.Done() {
			w.sweep.Step(w.bucket, w.now)
			w.hold(t)
		}
	}
	for _, o := range w.bucket.Look("") {
		name, part, _ := ident.Split(o.Name)
		if _, there := w.bucket.Peek(ident.Object(name, ident.Meta)); part == ident.Mark || !there {
			t.Errorf("P22.4: %s is left", o.Name)
		}
	}
}

// P21.1, P21.2, P22.3, P22.4: blocks are shipped, made one, marked and deleted, and whatever fails, or crashes, between: no sample is lost, and in the end only blocks that are live are left.
func TestAllTogether(t *testing.T) {
	made, gone := 0, 0
	for seed := range 60 {
		w := newWorld(seed)
		for i := range 1200 {
			w.act(t)
			w.hold(t)
			if t.Failed() {
				t.Fatalf("seed %d, %d", seed, i)
			}
		}
		w.rest(t)
		if t.Failed() {
			t.Fatalf("seed %d, at rest", seed)
		}
		made += len(w.blocks)
		gone += len(w.marks)
	}
	if made < 750 || gone < 500 {
		t.Errorf("%d blocks, %d marks", made, gone)
	}
}

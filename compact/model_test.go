package compact

import (
	"slices"
	"testing"

	"barograph/api"
	"barograph/block"
	"barograph/bucket"
	"barograph/ident"
	"barograph/label"
	"barograph/merge"
	"barograph/meta"
)

// rolls: numbers that follow from where they begin, and from nothing else.
type rolls uint64

func (r *rolls) below(n int) int {
	*r = *r*6364136223846793005 + 1442695040888963407
	return int(uint64(*r)>>33) % n
}

// trial: a bucket, a compactor, and what must hold of them, whatever fails between.
type trial struct {
	rolls
	cfg    Config
	bucket *bucket.Bucket
	comp   *Compactor
	now    int
	seq    int
	blocks map[string]block.Files // those that the trial has put
	all    []merge.Row            // their samples
	seen   []bucket.Info          // what was in the bucket when it was looked at last
	told   []int
}

func newTrial(t *testing.T, seed int) *trial {
	t.Helper()
	x := &trial{rolls: rolls(seed), bucket: bucket.New(), blocks: map[string]block.Files{}}
	x.cfg = Config{Width: 10, Grace: 1 + x.below(30), Patience: 1 + x.below(60)}
	x.comp = New(x.cfg)
	for range x.below(30) {
		x.come(t)
	}
	return x
}

// castTable: some series, whose samples are between two times; what is said of a series and a time is always the same.
func (x *trial) castTable(from, to int64) []merge.Row {
	var l []merge.Row
	for i, name := range []string{"a=1", "a=1,b=2", "c=3"} {
		labels, _ := label.Parse(name)
		r := merge.Row{Labels: labels}
		for at := from + int64(x.below(4)); at < to; at += 1 + int64(x.below(9)) {
			r.Samples = append(r.Samples, api.Sample{T: at, V: uint64(at)*3 + uint64(i)})
		}
		if len(r.Samples) > 0 && x.below(3) > 0 {
			l = append(l, r)
		}
	}
	return l
}

// next: a name of now, that no other one has.
func (x *trial) next() (string, api.Errno) {
	x.seq++
	switch x.below(20) {
	case 0:
		return "", api.ErrIO
	case 1:
		return "", api.ErrFull
	case 2:
		return "", api.ErrBig
	}
	return ident.Make(x.now, x.seq)
}

// come: a block more is in the bucket, mostly of level 1, now and then one that is made of others.
func (x *trial) come(t *testing.T) {
	t.Helper()
	from := int64(10 * x.below(25))
	to := from + 10
	x.seq++
	name, _ := ident.Make(x.now, x.seq)
	table := x.castTable(from, to)
	var sources []string
	if x.below(5) == 0 {
		sources, table = x.someBlocks(t)
		from, to = 0, 260
	}
	f := built(t, name, from, to, 1+x.below(9), sources, table...)
	x.blocks[name] = f
	x.all = merge.Tables(x.all, table)
	x.bucket.Clear()
	put(x.bucket, f, x.now)
}

// someBlocks: up to two whole blocks of the bucket, and their table.
func (x *trial) someBlocks(t *testing.T) ([]string, []merge.Row) {
	t.Helper()
	var names []string
	var table []merge.Row
	for _, f := range x.whole(t) {
		if len(names) < 2 && x.below(8) == 0 {
			rows, _ := f.Table()
			names, table = append(names, f.Meta.ID), merge.Tables(table, rows)
		}
	}
	return names, table
}

// whole: the blocks of the bucket, by rising names; each that has a meta must be whole.
func (x *trial) whole(t *testing.T) []block.Files {
	t.Helper()
	var l []block.Files
	for _, o := range x.bucket.Look("") {
		name, part, _ := ident.Split(o.Name)
		if part != ident.Meta {
			continue
		}
		said, _ := x.bucket.Peek(o.Name)
		m, err := meta.Decode(said)
		f := block.Files{Meta: m}
		f.Chunks, _ = x.bucket.Peek(ident.Object(name, ident.Chunks))
		f.Index, _ = x.bucket.Peek(ident.Object(name, ident.Index))
		if _, of := f.Table(); err != api.OK || of != api.OK || m.ID != name {
			t.Errorf("P21.1: %s: %d, %d", o.Name, err, of)
		}
		l = append(l, f)
	}
	return l
}

// hold: the samples of all live blocks are those of all that came; each mark is one of a block that a whole one has as a source.
func (x *trial) hold(t *testing.T) {
	t.Helper()
	now := x.bucket.Look("")
	if slices.Equal(now, x.seen) {
		return
	}
	x.seen = now
	whole := x.whole(t)
	sources := map[string]int{}
	for _, f := range whole {
		for _, name := range f.Meta.Sources {
			sources[name]++
		}
	}
	var live []merge.Row
	for _, f := range whole {
		if sources[f.Meta.ID] == 0 {
			table, _ := f.Table()
			live = merge.Tables(live, table)
		}
	}
	if !slices.EqualFunc(live, x.all, func(a, b merge.Row) bool {
		return slices.Equal(a.Labels, b.Labels) && slices.Equal(a.Samples, b.Samples)
	}) {
		t.Errorf("P21.1: %v, not %v", live, x.all)
	}
	for _, o := range now {
		name, part, _ := ident.Split(o.Name)
		if part != ident.Mark {
			continue
		}
		said, _ := x.bucket.Peek(o.Name)
		if of, at, err := meta.DecodeMark(said); err != api.OK || of != name || at != o.At || sources[name] == 0 {
			t.Errorf("P21.2: %s: %s, %d, %d, %d", o.Name, of, at, err, sources[name])
		}
	}
}

// step: one Step; with an error nothing is put, but what a call that failed may have.
func (x *trial) step(t *testing.T) {
	t.Helper()
	was, stage := x.bucket.Look(""), x.comp.Stage()
	err := x.comp.Step(x.bucket, x.now, x.next)
	x.told = append(x.told, int(err), x.comp.Stage(), len(x.bucket.Look("")))
	switch err {
	case api.OK, api.ErrIO:
	default:
		if !slices.Equal(was, x.bucket.Look("")) {
			t.Errorf("%d: %v, not %v", err, x.bucket.Look(""), was)
		}
	}
	wanted := x.comp.Stage()
	switch err {
	case api.OK:
	case api.ErrIO, api.ErrFull:
		wanted = stage
	case api.ErrIdle:
		wanted = Resting
	default:
		wanted = Scans
	}
	if x.comp.Stage() != wanted || err == api.ErrIdle && stage != Resting {
		t.Errorf("%d: stage %d, then %d", err, stage, x.comp.Stage())
	}
}

// act: something goes on: mostly a Step.
func (x *trial) act(t *testing.T) {
	t.Helper()
	if x.below(4) == 0 {
		x.now += x.below(3)
	}
	switch n := x.below(60); {
	case n == 0:
		x.come(t)
	case n == 1:
		x.now += x.below(40)
	case n == 2:
		x.comp = New(x.cfg)
	case n < 6:
		x.comp.Again()
	case n < 12:
		x.bucket.Arm(x.below(3), x.below(2) == 0)
	default:
		x.step(t)
	}
}

// rest: nothing fails any more; then all is made one that may be, and marked.
func (x *trial) rest(t *testing.T) {
	t.Helper()
	x.bucket.Clear()
	name := &namer{tick: x.now, seq: 1 << 30}
	// What it was at may be too old by now, but no clock goes on any more.
	if err := x.comp.Step(x.bucket, x.now, name.next); err != api.OK && err != api.ErrStale && err != api.ErrIdle {
		t.Errorf("P21.3: %d", err)
	}
	// Nor may its scan have seen what came last: a round more.
	for range 2 {
		x.comp.Again()
		rests(t, x.comp, x.bucket, x.now, name)
		x.hold(t)
	}
	x.comp.Again()
	was := x.bucket.Look("")
	if n := rests(t, x.comp, x.bucket, x.now, names()); n != 1+x.toGet() {
		t.Errorf("P21.3: %d Steps", n)
	}
	if !slices.Equal(was, x.bucket.Look("")) {
		t.Errorf("P21.3: %v, not %v", x.bucket.Look(""), was)
	}
}

// toGet: how many metas and marks there are.
func (x *trial) toGet() int {
	n := 0
	for _, o := range x.bucket.Look("") {
		if _, part, _ := ident.Split(o.Name); part == ident.Meta || part == ident.Mark {
			n++
		}
	}
	return n
}

// P21.1 to P21.3: whatever fails, and whatever comes, between.
func TestWhateverFails(t *testing.T) {
	made, anew := 0, 0
	for seed := range 100 {
		x := newTrial(t, seed)
		for i := range 600 {
			x.act(t)
			x.hold(t)
			if t.Failed() {
				t.Fatalf("seed %d, %d", seed, i)
			}
		}
		x.rest(t)
		if t.Failed() {
			t.Fatalf("seed %d, at rest", seed)
		}
		made += len(x.whole(t)) - len(x.blocks)
		for _, n := range x.told {
			if n == int(api.ErrStale) {
				anew++
			}
		}
	}
	if made < 200 || anew < 100 {
		t.Errorf("%d blocks were made, %d rounds too old", made, anew)
	}
}

// P21.3: at rest there is no plan, and nothing is to be marked: no two blocks that are free lie in one range, but such as are too many together.
func TestAtRest(t *testing.T) {
	for seed := range 200 {
		x := newTrial(t, seed)
		rests(t, x.comp, x.bucket, 7, &namer{tick: 7, seq: 1000})
		x.hold(t)
		var free []meta.Meta
		sources := map[string]int{}
		for _, f := range x.whole(t) {
			for _, name := range f.Meta.Sources {
				sources[name]++
			}
		}
		for _, f := range x.whole(t) {
			_, isMarked := x.bucket.Peek(ident.Object(f.Meta.ID, ident.Mark))
			if isMarked != (sources[f.Meta.ID] > 0) {
				t.Errorf("%s: marked: %v, a source of %d", f.Meta.ID, isMarked, sources[f.Meta.ID])
			}
			if !isMarked {
				free = append(free, f.Meta)
			}
		}
		for i, a := range free {
			for _, b := range free[:i] {
				if from := min(a.Min, b.Min); max(a.Max, b.Max) <= from-from%90+90 {
					t.Errorf("%+v, %+v", a, b)
				}
			}
		}
		if t.Failed() {
			t.Fatalf("seed %d", seed)
		}
	}
}

// K4: the same calls are answered in the same way.
func TestSameAgain(t *testing.T) {
	var told []int
	for range 3 {
		x := newTrial(t, 5)
		for range 800 {
			x.act(t)
		}
		if told == nil {
			told = x.told
		}
		if !slices.Equal(told, x.told) {
			t.Fatal("another answer")
		}
	}
}

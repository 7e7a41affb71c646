package sweep

import (
	"slices"
	"strings"
	"testing"

	"barograph/api"
	"barograph/bucket"
	"barograph/ident"
	"barograph/meta"
)

// rolls: numbers that follow from where they begin, and from nothing else.
type rolls uint64

func (r *rolls) below(n int) int {
	*r = *r*6364136223846793005 + 1442695040888963407
	return int(uint64(*r)>>33) % n
}

// started is a block on its way into a bucket: how many parts of it are put.
type started struct {
	id   string
	made int
	put  int
}

// trial: a bucket into which blocks come, some not whole, and in which some are marked; a sweeper; and what must hold of them.
type trial struct {
	rolls
	cfg    Config
	bucket *bucket.Bucket
	sweep  *Sweeper
	now    int
	seq    int
	ways   []started
	marks  map[string]int // when blocks were marked, by marks that count
	first  map[string]int // of blocks of which something was deleted: when the first object had been put
	told   []string
}

func newTrial(seed int) *trial {
	x := &trial{rolls: rolls(seed), bucket: bucket.New(), marks: map[string]int{}, first: map[string]int{}}
	x.cfg = Config{Delay: x.below(25), Grace: x.below(25), Patience: x.below(12)}
	x.sweep = New(x.cfg)
	x.bucket.Put("index", "x", 0)
	return x
}

// come: a block more is on its way, or one that is goes on, or is given up.
func (x *trial) come() {
	if len(x.ways) == 0 || x.below(4) == 0 {
		x.seq++
		name, _ := ident.Make(x.now, x.seq)
		x.ways = append(x.ways, started{id: name, made: x.now})
		return
	}
	i := x.below(len(x.ways))
	w := &x.ways[i]
	// Nothing is put any more when it is too old (layer 18).
	if w.put == 3 || x.now-w.made >= x.cfg.Grace || x.below(10) == 0 {
		x.ways = slices.Delete(x.ways, i, i+1)
		return
	}
	part := [...]string{ident.Chunks, ident.Index, ident.Meta}[w.put]
	if x.bucket.Put(ident.Object(w.id, part), part, x.now) == api.OK {
		w.put++
	}
}

// mark: some block that has a meta, and no mark, is marked; not all marks count.
func (x *trial) mark() {
	for _, o := range x.bucket.Look("") {
		name, part, _ := ident.Split(o.Name)
		_, there := x.bucket.Peek(ident.Object(name, ident.Mark))
		if part != ident.Meta || there || x.below(6) > 0 {
			continue
		}
		x.bucket.Clear()
		if x.below(5) == 0 {
			x.bucket.Put(ident.Object(name, ident.Mark), "x", x.now)
			continue
		}
		x.bucket.Put(ident.Object(name, ident.Mark), meta.EncodeMark(name, x.now), x.now)
		x.marks[name] = x.now
	}
}

// step: one Step: at most one object is deleted, which may be.
func (x *trial) step(t *testing.T) {
	t.Helper()
	was := x.bucket.Look("")
	gone := x.sweep.Gone()
	err := x.sweep.Step(x.bucket, x.now)
	lost := less(namesOf(was), names(x.bucket))
	x.told = append(x.told, string(rune('A'+err)))
	x.told = append(x.told, lost...)
	if len(lost) > 1 || len(lost) == 1 && err != api.OK && err != api.ErrIO {
		t.Errorf("%d: %q", err, lost)
	}
	if n := x.sweep.Gone() - gone; n > 0 && err != api.OK || n > 1 {
		t.Errorf("%d: %d gone more", err, n)
	}
	for _, name := range lost {
		x.mayGo(t, name, was)
	}
}

// namesOf: the objects' names.
func namesOf(l []bucket.Info) []string {
	var names []string
	for _, o := range l {
		names = append(names, o.Name)
	}
	return names
}

// mayGo: P22.2, P22.3, of an object that was deleted, of these: its block was marked more than Delay ago, or has no meta, and its first object was put more than Grace ago; and all that goes ahead of it is gone.
func (x *trial) mayGo(t *testing.T, name string, was []bucket.Info) {
	t.Helper()
	block, part, is := ident.Split(name)
	if !is {
		t.Errorf("%s", name)
		return
	}
	var parts []string
	least := x.now
	for _, o := range was {
		if of, part, _ := ident.Split(o.Name); of == block {
			parts = append(parts, part)
			least = min(least, o.At)
		}
	}
	if _, known := x.first[block]; !known {
		x.first[block] = least
	}
	at, marked := x.marks[block]
	switch {
	case marked && x.now-at <= x.cfg.Delay:
		t.Errorf("at %d: %s, marked at %d", x.now, name, at)
	case marked && !slices.Contains(parts, ident.Mark):
		t.Errorf("%s behind its mark", name)
	case !marked && (slices.Contains(parts, ident.Meta) || x.now-x.first[block] <= x.cfg.Grace):
		t.Errorf("at %d: %s, of %q since %d", x.now, name, parts, x.first[block])
	}
	for _, ahead := range []string{ident.Meta, ident.Index, ident.Chunks, ident.Mark} {
		if ahead == part {
			break
		}
		if slices.Contains(parts, ahead) {
			t.Errorf("%s ahead of %s", name, ahead)
		}
	}
}

// hold: P22.3: what has a meta has its files.
func (x *trial) hold(t *testing.T) {
	t.Helper()
	l := names(x.bucket)
	for _, name := range l {
		block, part, _ := ident.Split(name)
		if part == ident.Meta && (!slices.Contains(l, ident.Object(block, ident.Chunks)) || !slices.Contains(l, ident.Object(block, ident.Index))) {
			t.Errorf("%s of what isn't whole", name)
		}
	}
	if !slices.Contains(l, "index") {
		t.Error("no index")
	}
}

// act: one of all.
func (x *trial) act(t *testing.T) {
	t.Helper()
	x.now += x.below(8) / 6
	switch n := x.below(40); {
	case n < 14:
		x.come()
	case n == 14:
		x.mark()
	case n == 15:
		x.now += x.below(10)
	case n == 16:
		x.sweep = New(x.cfg)
	case n == 17 || n == 18 && x.sweep.Done():
		x.sweep.Again()
	case n < 24:
		x.bucket.Arm(x.below(3), x.below(2) == 0)
	default:
		x.step(t)
	}
}

// P22.2 to P22.4: whatever fails between, only what may be is deleted, metas first, marks last; and when nothing fails, and the clock has gone far enough, none of it is left.
func TestWhateverFails(t *testing.T) {
	lost := 0
	for seed := range 150 {
		x := newTrial(seed)
		for i := range 500 {
			x.act(t)
			x.hold(t)
			if t.Failed() {
				t.Fatalf("seed %d, %d", seed, i)
			}
		}
		lost += len(x.first)
		x.bucket.Clear()
		x.now += 26
		x.sweep.Again()
		round(t, x.sweep, x.bucket, x.now)
		x.hold(t)
		for _, name := range names(x.bucket) {
			block, _, is := ident.Split(name)
			_, whole := x.bucket.Peek(ident.Object(block, ident.Meta))
			if at, marked := x.marks[block]; is && (marked || !whole) {
				t.Errorf("P22.4: %s is left, marked %v at %d, a meta: %v", name, marked, at, whole)
			}
		}
		if t.Failed() {
			t.Fatalf("seed %d, at its end", seed)
		}
	}
	if lost < 500 {
		t.Errorf("of %d blocks alone something was deleted", lost)
	}
}

// plainVictims: by the chapter's words.
func plainVictims(cfg Config, now int, l []bucket.Info, marks map[string]int) []string {
	var blocks, want []string
	for _, o := range l {
		if name, _, is := ident.Split(o.Name); is && !slices.Contains(blocks, name) {
			blocks = append(blocks, name)
		}
	}
	slices.Sort(blocks)
	for _, block := range blocks {
		var those []bucket.Info
		for _, part := range []string{ident.Meta, ident.Index, ident.Chunks, ident.Mark} {
			for _, o := range l {
				if o.Name == ident.Object(block, part) {
					those = append(those, o)
				}
			}
		}
		first := slices.MinFunc(those, func(a, b bucket.Info) int { return a.At - b.At })
		at, marked := marks[block]
		long := marked && now-at > cfg.Delay
		never := !marked && !strings.HasSuffix(those[0].Name, "/meta") && now-first.At > cfg.Grace
		if long || never {
			want = append(want, namesOf(those)...)
		}
	}
	return want
}

// P22.1: Victims are what the chapter's words say.
func TestPlainly(t *testing.T) {
	victims := 0
	for seed := range 3000 {
		r := rolls(seed)
		cfg := Config{Delay: r.below(20), Grace: r.below(20), Patience: r.below(20)}
		var l []bucket.Info
		marks := map[string]int{}
		for n := range r.below(12) {
			for _, part := range []string{ident.Chunks, ident.Index, ident.Mark, ident.Meta, "other"} {
				if r.below(5) > 1 {
					l = append(l, info(of(n, part), r.below(40)))
				}
			}
			if r.below(2) == 0 {
				marks[id(n)] = r.below(40)
			}
		}
		now := r.below(60)
		got := Victims(cfg, now, l, marks)
		if want := plainVictims(cfg, now, l, marks); !slices.Equal(got, want) {
			t.Fatalf("seed %d: %q, not %q", seed, got, want)
		}
		victims += len(got)
	}
	if victims < 10000 {
		t.Errorf("%d victims", victims)
	}
}

// K4: the same calls are answered in the same way.
func TestSameAgain(t *testing.T) {
	var told []string
	for range 3 {
		x := newTrial(3)
		for range 800 {
			x.act(t)
		}
		if told == nil {
			told = x.told
		}
		if !slices.Equal(told, x.told) {
			t.Fatal("another answer")
		}
	}
}

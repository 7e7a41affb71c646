package compact

import (
	"slices"
	"testing"

	"barograph/api"
	"barograph/block"
	"barograph/bucket"
	"barograph/ident"
	"barograph/label"
	"barograph/merge"
	"barograph/meta"
)

// id: the n-th block's name.
func id(n int) string {
	s, _ := ident.Make(33, n)
	return s
}

// of: the name of the n-th block's object.
func of(n int, part string) string {
	return ident.Object(id(n), part)
}

// row: labels, and samples whose values are seven times their times.
func row(s string, times ...int64) merge.Row {
	l, _ := label.Parse(s)
	r := merge.Row{Labels: l}
	for _, at := range times {
		r.Samples = append(r.Samples, api.Sample{T: at, V: uint64(7 * at)})
	}
	return r
}

// built: the block of a name and of a table.
func built(t *testing.T, name string, from, to int64, level int, sources []string, table ...merge.Row) block.Files {
	t.Helper()
	f, err := block.Build(name, from, to, level, sources, table)
	if err != api.OK {
		t.Fatalf("the test's own block: %d", err)
	}
	return f
}

// put: a block is in a bucket, since a tick.
func put(b *bucket.Bucket, f block.Files, at int) {
	b.Put(ident.Object(f.Meta.ID, ident.Chunks), f.Chunks, at)
	b.Put(ident.Object(f.Meta.ID, ident.Index), f.Index, at)
	b.Put(ident.Object(f.Meta.ID, ident.Meta), meta.Encode(f.Meta), at)
}

// first, second: blocks beside each other.
func first(t *testing.T) block.Files {
	t.Helper()
	return built(t, id(1), 0, 10, 1, nil, row("a=1", 3, 4), row("b=1", 5))
}

func second(t *testing.T) block.Files {
	t.Helper()
	return built(t, id(2), 10, 20, 1, nil, row("a=1", 15))
}

// third: the block that is made of them, of a name of the tick 40.
func third(t *testing.T) block.Files {
	t.Helper()
	name, _ := ident.Make(40, 7)
	return built(t, name, 0, 20, 2, []string{id(1), id(2)}, row("a=1", 3, 4, 15), row("b=1", 5))
}

// two: a bucket with the first two of them.
func two(t *testing.T) *bucket.Bucket {
	t.Helper()
	b := bucket.New()
	put(b, first(t), 34)
	put(b, second(t), 35)
	return b
}

// fits: what the tests' compactors go by, where they don't say otherwise.
func fits() Config {
	return Config{Width: 10, Grace: 9, Patience: 5}
}

// namer makes names of a tick.
type namer struct {
	tick, seq int
	asked     int
}

// next: the next name.
func (n *namer) next() (string, api.Errno) {
	n.asked++
	n.seq++
	return ident.Make(n.tick, n.seq-1)
}

// names: those of the tick 40, from the third block's on.
func names() *namer {
	return &namer{tick: 40, seq: 7}
}

// ends: did a call end so?
func ends(t *testing.T, what string, got, wanted api.Errno) {
	t.Helper()
	if got != wanted {
		t.Errorf("%s: %d, not %d", what, got, wanted)
	}
}

// calls: does something end so, with so many calls of the bucket?
func calls(t *testing.T, what string, b *bucket.Bucket, n int, wanted api.Errno, act func() api.Errno) {
	t.Helper()
	const room = 5
	b.Arm(room, false)
	ends(t, what, act(), wanted)
	tries := 0
	for works := true; works && tries <= room; tries++ {
		works, _ = b.Try()
	}
	// Try works as often as there is room left, and fails once.
	if made := room + 1 - tries; made != n {
		t.Errorf("%s: %d calls, not %d", what, made, n)
	}
	b.Clear()
}

// object: an object's name, its bytes, when it was put.
type object struct {
	name, data string
	at         int
}

// objects: those of a bucket, by rising names.
func objects(b *bucket.Bucket) []object {
	var l []object
	for _, o := range b.Look("") {
		data, _ := b.Peek(o.Name)
		l = append(l, object{o.Name, data, o.At})
	}
	return l
}

// has: are these a bucket's objects, in any order?
func has(t *testing.T, what string, b *bucket.Bucket, wanted ...object) {
	t.Helper()
	slices.SortFunc(wanted, func(x, y object) int {
		if x.name < y.name {
			return -1
		}
		return 1
	})
	if l := objects(b); !slices.Equal(l, wanted) {
		t.Errorf("%s: %v, not %v", what, l, wanted)
	}
}

// holds: has a bucket a block's three objects?
func holds(t *testing.T, what string, b *bucket.Bucket, f block.Files) {
	t.Helper()
	for part, data := range map[string]string{ident.Chunks: f.Chunks, ident.Index: f.Index, ident.Meta: meta.Encode(f.Meta)} {
		if got, _ := b.Peek(ident.Object(f.Meta.ID, part)); got != data {
			t.Errorf("%s: %s: %q, not %q", what, part, got, data)
		}
	}
}

// step is what one Step must be: so many calls of the bucket; behind it the stage.
type step struct {
	what  string
	calls int
	stage int
}

// toThird: the Steps by which the third block is made of the first two, and these are marked.
func toThird() []step {
	return []step{
		{"List", 1, Scans}, {"the first meta", 1, Scans}, {"the second meta", 1, Reads},
		{"the first index", 1, Reads}, {"a=1 of the first", 1, Reads}, {"b=1 of the first", 1, Reads},
		{"the second index", 1, Reads}, {"a=1 of the second", 1, Reads}, {"name and build", 0, Puts},
		{"chunks", 1, Puts}, {"index", 1, Puts}, {"meta", 1, Marks}, {"the first mark", 1, Marks}, {"the second mark", 1, Scans},
	}
}

// Which of these is the next one, when so many are done.
const (
	buildStep = 8
	putStep   = 9
	markStep  = 12
	allSteps  = 14
)

// goes: are these the next Steps, at a tick?
func goes(t *testing.T, c *Compactor, b *bucket.Bucket, now int, name *namer, steps ...step) {
	t.Helper()
	for _, s := range steps {
		calls(t, s.what, b, s.calls, api.OK, func() api.Errno { return c.Step(b, now, name.next) })
		if c.Stage() != s.stage {
			t.Fatalf("%s: stage %d, not %d", s.what, c.Stage(), s.stage)
		}
	}
}

// after: a compactor that has done so many of the Steps to the third block, at the tick 40, and its bucket.
func after(t *testing.T, n int) (*Compactor, *bucket.Bucket) {
	t.Helper()
	c, b := New(fits()), two(t)
	goes(t, c, b, 40, names(), toThird()[:n]...)
	return c, b
}

// rests: does it come to rest, when nothing fails, at a tick? How many Steps that takes.
func rests(t *testing.T, c *Compactor, b *bucket.Bucket, now int, name *namer) int {
	t.Helper()
	n := 0
	for ; c.Stage() != Resting; n++ {
		if n > 5000 {
			t.Fatal("it doesn't come to rest")
		}
		if err := c.Step(b, now, name.next); err != api.OK {
			t.Fatalf("Step %d: %d", n, err)
		}
	}
	ends(t, "resting", c.Step(b, now, name.next), api.ErrIdle)
	return n
}

// marked: is a block marked, by an object that was put then?
func marked(t *testing.T, what string, b *bucket.Bucket, name string, at int) {
	t.Helper()
	mark := ident.Object(name, ident.Mark)
	l := b.Look(mark)
	if data, _ := b.Peek(mark); len(l) != 1 || l[0].At != at || data != meta.EncodeMark(name, at) {
		t.Errorf("%s: %s: %q, %v", what, mark, data, l)
	}
}

// unmarked: is it not?
func unmarked(t *testing.T, what string, b *bucket.Bucket, name string) {
	t.Helper()
	if data, there := b.Peek(ident.Object(name, ident.Mark)); there {
		t.Errorf("%s: %s is marked: %q", what, name, data)
	}
}

// P21.1 to P21.3: the chapter's example.
func TestExample(t *testing.T) {
	b := bucket.New()
	put(b, built(t, id(1), 0, 10, 1, nil, row("a=1", 3)), 34)
	put(b, built(t, id(2), 10, 20, 1, nil, row("a=1", 15)), 34)
	c := New(fits())
	goes(t, c, b, 40, names(), []step{
		{"List", 1, Scans}, {"Get", 1, Scans}, {"Get", 1, Reads},
		{"index", 1, Reads}, {"chunks", 1, Reads}, {"index", 1, Reads}, {"chunks", 1, Reads},
		{"name and build", 0, Puts}, {"Put", 1, Puts}, {"Put", 1, Puts}, {"Put", 1, Marks}, {"mark", 1, Marks}, {"mark", 1, Scans},
		{"List", 1, Scans}, {"Get", 1, Scans}, {"Get", 1, Scans}, {"Get", 1, Scans}, {"Get", 1, Scans}, {"Get", 1, Resting},
	}...)
	calls(t, "resting", b, 0, api.ErrIdle, func() api.Errno { return c.Step(b, 40, names().next) })
}

// P21.1, P21.2: each object is put at its Step's tick, with the bytes of a block of the plan's times, level and names; the sources stay as they are, and are marked behind it.
func TestWhatIsPut(t *testing.T) {
	b := two(t)
	c, name := New(fits()), names()
	want := objects(b)
	f := third(t)
	puts := []object{
		{ident.Object(f.Meta.ID, ident.Chunks), f.Chunks, 41}, {ident.Object(f.Meta.ID, ident.Index), f.Index, 42},
		{ident.Object(f.Meta.ID, ident.Meta), meta.Encode(f.Meta), 43},
		{of(1, ident.Mark), meta.EncodeMark(id(1), 44), 44}, {of(2, ident.Mark), meta.EncodeMark(id(2), 45), 45},
	}
	for i, s := range toThird() {
		now := 40
		if i >= putStep {
			o := puts[i-putStep]
			now = o.at
			want = append(want, o)
		}
		goes(t, c, b, now, name, s)
		has(t, s.what, b, slices.Clone(want)...)
		if asked := name.asked == 1; asked != (i >= buildStep) {
			t.Errorf("%s: %d names", s.what, name.asked)
		}
	}
	rests(t, c, b, 46, name)
	has(t, "resting", b, want...)
	if name.asked != 1 {
		t.Errorf("%d names", name.asked)
	}
}

// P21.3: of a bucket in which there is nothing to do it rests behind its scan.
func TestNothingToDo(t *testing.T) {
	for _, c := range []struct {
		what  string
		fill  func(b *bucket.Bucket)
		steps int
	}{
		{"no objects", func(b *bucket.Bucket) {}, 1},
		{"other objects", func(b *bucket.Bucket) {
			for _, name := range []string{"index", "meta", of(1, ident.Chunks), of(1, ident.Index)} {
				b.Put(name, "x", 34)
			}
		}, 1},
		{"one block", func(b *bucket.Bucket) { put(b, first(t), 34) }, 2},
		{"two, far apart", func(b *bucket.Bucket) {
			put(b, first(t), 34)
			put(b, built(t, id(5), 90, 100, 1, nil, row("a=1", 90)), 34)
		}, 3},
		{"one is marked", func(b *bucket.Bucket) {
			put(b, first(t), 34)
			put(b, second(t), 34)
			b.Put(of(2, ident.Mark), meta.EncodeMark(id(2), 36), 36)
		}, 4},
		{"one has no meta", func(b *bucket.Bucket) {
			put(b, first(t), 34)
			put(b, second(t), 34)
			b.Delete(of(2, ident.Meta))
		}, 2},
		{"one's meta is none", func(b *bucket.Bucket) {
			put(b, first(t), 34)
			put(b, second(t), 34)
			b.Put(of(2, ident.Meta), "x", 34)
		}, 3},
	} {
		b := bucket.New()
		c.fill(b)
		was := objects(b)
		x, name := New(fits()), names()
		if x.Stage() != Scans {
			t.Errorf("%s: stage %d", c.what, x.Stage())
		}
		for n := range c.steps {
			calls(t, c.what, b, 1, api.OK, func() api.Errno { return x.Step(b, 40, name.next) })
			if resting := x.Stage() == Resting; resting != (n == c.steps-1) {
				t.Errorf("%s: stage %d behind %d", c.what, x.Stage(), n)
			}
		}
		has(t, c.what, b, was...)
		if name.asked > 0 {
			t.Errorf("%s: a name", c.what)
		}
	}
}

// P21.3: while it rests there is nothing to do, whenever it is asked, and whatever comes into the bucket; Again: a new round, that hasn't begun.
func TestResting(t *testing.T) {
	b, name := bucket.New(), names()
	c := New(fits())
	rests(t, c, b, 40, name)
	put(b, first(t), 41)
	put(b, second(t), 41)
	was := objects(b)
	for _, now := range []int{0, 40, 45, 46, 1 << 40} {
		calls(t, "resting", b, 0, api.ErrIdle, func() api.Errno { return c.Step(b, now, name.next) })
		if c.Stage() != Resting || name.asked > 0 {
			t.Errorf("stage %d, %d names", c.Stage(), name.asked)
		}
	}
	has(t, "resting", b, was...)
	c.Again()
	if c.Stage() != Scans {
		t.Errorf("Again: stage %d", c.Stage())
	}
	// Long behind the round that came to rest: this one hasn't begun.
	name.tick = 900
	goes(t, c, b, 900, name, toThird()...)
	rests(t, c, b, 900, name)
}

// Again: where it doesn't rest, nothing.
func TestAgainBetween(t *testing.T) {
	c, b, name := New(fits()), two(t), names()
	for _, s := range toThird() {
		c.Again()
		goes(t, c, b, 40, name, s)
		c.Again()
	}
	c.Again()
	if n := rests(t, c, b, 40, name); n != 6 {
		t.Errorf("%d Steps more", n)
	}
}

// of1To3: the blocks 1 and 2, whole, and a block 3 that has them as sources, whose meta is as given.
func of1To3(t *testing.T) *bucket.Bucket {
	t.Helper()
	b := two(t)
	put(b, built(t, id(3), 0, 20, 2, []string{id(1), id(2)}, row("a=1", 3, 4, 15), row("b=1", 5)), 36)
	return b
}

// P21.2: what is to be marked is marked ahead of any plan, by rising names, of each Step's tick; nothing else is put.
func TestMarksOfListing(t *testing.T) {
	b := of1To3(t)
	put(b, built(t, id(4), 20, 30, 1, nil, row("a=1", 25)), 36)
	want := objects(b)
	c, name := New(fits()), names()
	goes(t, c, b, 40, name, step{"List", 1, Scans}, step{"1", 1, Scans}, step{"2", 1, Scans}, step{"3", 1, Scans}, step{"4", 1, Marks})
	goes(t, c, b, 41, name, step{"mark 1", 1, Marks})
	want = append(want, object{of(1, ident.Mark), meta.EncodeMark(id(1), 41), 41})
	has(t, "mark 1", b, slices.Clone(want)...)
	goes(t, c, b, 43, name, step{"mark 2", 1, Scans})
	want = append(want, object{of(2, ident.Mark), meta.EncodeMark(id(2), 43), 43})
	has(t, "mark 2", b, slices.Clone(want)...)
	// Then the plan: 3 and 4, as the others aren't live.
	name.tick = 44
	rests(t, c, b, 44, name)
	made, _ := ident.Make(44, 7)
	said, _ := b.Peek(ident.Object(made, ident.Meta))
	if m, err := meta.Decode(said); err != api.OK || !slices.Equal(m.Sources, []string{id(3), id(4)}) || m.Level != 3 || m.Min != 0 || m.Max != 30 {
		t.Errorf("the meta: %+v, %d", m, err)
	}
	marked(t, "the plan", b, id(3), 44)
	marked(t, "the plan", b, id(4), 44)
	unmarked(t, "the plan", b, made)
	marked(t, "the elder mark", b, id(1), 41)
}

// P21.2: one that is marked already isn't marked again.
func TestMarkedAlready(t *testing.T) {
	b := of1To3(t)
	b.Put(of(1, ident.Mark), meta.EncodeMark(id(1), 0), 37)
	want := objects(b)
	c, name := New(fits()), names()
	rests(t, c, b, 40, name)
	has(t, "resting", b, append(want, object{of(2, ident.Mark), meta.EncodeMark(id(2), 40), 40})...)
}

// P21.2: what only a marked block, or none that is there, has as a source isn't marked.
func TestNotToBeMarked(t *testing.T) {
	b := of1To3(t)
	b.Put(of(3, ident.Mark), meta.EncodeMark(id(3), 38), 38)
	want := objects(b)
	c, name := New(fits()), names()
	rests(t, c, b, 40, name)
	has(t, "a marked one", b, want...)
	b = of1To3(t)
	b.Delete(of(3, ident.Meta))
	rests(t, New(fits()), b, 40, name)
	holds(t, "one without a meta", b, third(t))
}

// P21.1: of what the blocks say of one time the first one's in the plan's order stands, which goes by Min, not by names.
func TestOrderOfBlocks(t *testing.T) {
	other := row("a=1", 5, 7)
	other.Samples[1].V = 1
	b := bucket.New()
	put(b, built(t, id(1), 5, 10, 1, nil, other), 34)
	put(b, built(t, id(2), 0, 10, 3, nil, row("a=1", 2, 7)), 34)
	c, name := New(fits()), names()
	goes(t, c, b, 40, name, toThird()[:3]...)
	// The second one's index is the first one that is read.
	b.Delete(of(1, ident.Index))
	goes(t, c, b, 40, name, step{"the second index", 1, Reads}, step{"a=1 of the second", 1, Reads})
	put(b, built(t, id(1), 5, 10, 1, nil, other), 34)
	rests(t, c, b, 40, name)
	want := built(t, third(t).Meta.ID, 0, 10, 4, []string{id(1), id(2)}, row("a=1", 2, 5, 7))
	holds(t, "by Min", b, want)
}

// P21.1: blocks without samples, and such of several chunks a row, are made one as all others.
func TestSizes(t *testing.T) {
	var times, later []int64
	for i := range int64(300) {
		times, later = append(times, i), append(later, 1000+i)
	}
	b := bucket.New()
	put(b, built(t, id(1), 0, 1000, 1, nil), 34)
	put(b, built(t, id(2), 0, 1000, 9, nil, row("a=1", times...)), 34)
	put(b, built(t, id(3), 1000, 3000, 1, nil, row("a=1", later...), row("c=1", 2999)), 34)
	rests(t, New(Config{Width: 1000, Grace: 1, Patience: 1}), b, 40, names())
	want := built(t, third(t).Meta.ID, 0, 3000, 9, []string{id(1), id(2), id(3)}, row("a=1", append(times, later...)...), row("c=1", 2999))
	holds(t, "three", b, want)
	b = bucket.New()
	put(b, built(t, id(1), 0, 10, 1, nil), 34)
	put(b, built(t, id(2), 0, 10, 1, nil), 34)
	rests(t, New(fits()), b, 40, names())
	holds(t, "of none", b, built(t, want.Meta.ID, 0, 10, 2, []string{id(1), id(2)}))
}

// P21.1: the new block's times are the plan's, which begin with the least Min, and end with the greatest Max.
func TestTimes(t *testing.T) {
	b := bucket.New()
	put(b, built(t, id(1), 92, 100, 1, nil, row("a=1", 95)), 34)
	put(b, built(t, id(2), 100, 119, 1, nil, row("a=1", 100)), 34)
	put(b, built(t, id(3), 101, 110, 1, nil, row("a=1", 109)), 34)
	rests(t, New(fits()), b, 40, names())
	want := built(t, third(t).Meta.ID, 92, 119, 2, []string{id(1), id(2), id(3)}, row("a=1", 95, 100, 109))
	holds(t, "times", b, want)
}

// P21.1: a block's whole is read: also what its meta's times don't say, if the plan's have it; else no block is built, and none is marked.
func TestWholeIsRead(t *testing.T) {
	b := bucket.New()
	f := built(t, id(1), 0, 20, 1, nil, row("a=1", 3, 15), row("b=1", 12))
	f.Meta.Max = 10
	put(b, f, 34)
	put(b, second(t), 34)
	rests(t, New(fits()), b, 40, names())
	want := built(t, third(t).Meta.ID, 0, 20, 2, []string{id(1), id(2)}, row("a=1", 3, 15), row("b=1", 12))
	holds(t, "times that the meta doesn't say", b, want)
	for _, at := range []int64{20, 1 << 40} {
		b = bucket.New()
		f = built(t, id(1), 0, 1<<40, 1, nil, row("a=1", 3, 1<<40-1))
		if at == 20 {
			f = built(t, id(1), 0, 21, 1, nil, row("b=1", at))
		}
		f.Meta.Max = 10
		put(b, f, 34)
		put(b, second(t), 34)
		was := objects(b)
		c, err := New(fits()), api.OK
		for n := 0; err == api.OK && n < 20; n++ {
			err = c.Step(b, 40, names().next)
		}
		ends(t, "times that aren't the plan's", err, api.ErrArg)
		if c.Stage() != Scans {
			t.Errorf("stage %d", c.Stage())
		}
		has(t, "times that aren't the plan's", b, was...)
	}
}

// Width: the ranges in which blocks are made one go by it.
func TestWidth(t *testing.T) {
	for _, c := range []struct {
		width int64
		made  bool
	}{{1, false}, {2, false}, {3, true}, {10, true}, {1 << 30, true}} {
		b, name := two(t), names()
		rests(t, New(Config{Width: c.width, Grace: 9, Patience: 5}), b, 40, name)
		if made := name.asked > 0; made != c.made {
			t.Errorf("width %d: %v", c.width, made)
		}
	}
}

// P21.3: more blocks than one plan may have are made one in several rounds.
func TestManyBlocks(t *testing.T) {
	b := bucket.New()
	var times []int64
	for n := range 45 {
		put(b, built(t, id(n), 2*int64(n), 2*int64(n)+2, 1, nil, row("a=1", 2*int64(n)+1)), 34)
		times = append(times, 2*int64(n)+1)
	}
	name := names()
	rests(t, New(fits()), b, 40, name)
	var live []meta.Meta
	for _, o := range b.Look("") {
		block, part, _ := ident.Split(o.Name)
		if part != ident.Meta {
			continue
		}
		said, _ := b.Peek(o.Name)
		m, _ := meta.Decode(said)
		if _, isMarked := b.Peek(ident.Object(block, ident.Mark)); !isMarked {
			live = append(live, m)
		}
	}
	if len(live) != 1 || live[0].Samples != 45 || live[0].Min != 0 || live[0].Max != 90 {
		t.Errorf("%+v", live)
	}
	if data, _ := b.Peek(ident.Object(live[0].ID, ident.Chunks)); data != built(t, id(99), 0, 90, 1, nil, row("a=1", times...)).Chunks {
		t.Errorf("chunks: %q", data)
	}
}

// K3: two compactors have nothing to do with each other; each Step calls the bucket, and the function, that it is handed.
func TestTwo(t *testing.T) {
	b, other := two(t), bucket.New()
	x, y, name := New(fits()), New(Config{Width: 1, Grace: 1, Patience: 1}), names()
	goes(t, x, b, 40, name, toThird()[:buildStep]...)
	goes(t, y, other, 90, names(), step{"List", 1, Resting})
	if x.Stage() != Reads {
		t.Errorf("stage %d", x.Stage())
	}
	goes(t, x, other, 40, names(), toThird()[buildStep:]...)
	if name.asked > 0 {
		t.Error("an elder function was called")
	}
	f := third(t)
	has(t, "the other bucket", other,
		object{ident.Object(f.Meta.ID, ident.Chunks), f.Chunks, 40}, object{ident.Object(f.Meta.ID, ident.Index), f.Index, 40},
		object{ident.Object(f.Meta.ID, ident.Meta), meta.Encode(f.Meta), 40},
		object{of(1, ident.Mark), meta.EncodeMark(id(1), 40), 40}, object{of(2, ident.Mark), meta.EncodeMark(id(2), 40), 40})
	has(t, "the bucket", b, objects(two(t))...)
}

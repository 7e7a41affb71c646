package ship

import (
	"slices"
	"strings"
	"testing"

	"barograph/api"
	"barograph/block"
	"barograph/bucket"
	"barograph/disk"
	"barograph/ident"
	"barograph/meta"
)

// rolls: numbers that follow from where they begin, and from nothing else.
type rolls uint64

func (r *rolls) below(n int) int {
	*r = *r*6364136223846793005 + 1442695040888963407
	return int(uint64(*r)>>33) % n
}

// grace: how old a block may be that is put, in trials.
const grace = 20

// trial: a disk, a bucket, and what must hold of them, whatever fails or crashes.
type trial struct {
	rolls
	disk   *disk.Disk
	bucket *bucket.Bucket
	now    int
	upload *Upload
	built  map[string]block.Files // of each name that Next answered its block
	names  []string               // these names, rising
	sure   map[string]int         // the blocks that must be whole on the disk: saved, and not asked to be erased
	notes  map[string]int         // the notes that must be there, and when they were made
	may    map[string]int         // the blocks of which a note may be there, or not
	told   []string
}

func newTrial(seed, room int) *trial {
	return &trial{rolls: rolls(seed), disk: disk.New(room), bucket: bucket.New(), built: map[string]block.Files{},
		sure: map[string]int{}, notes: map[string]int{}, may: map[string]int{}}
}

// one: a name that there has been, often one of the last ones.
func (c *trial) one() string {
	n := len(c.names)
	if c.below(3) > 0 {
		return c.names[n-1-c.below(min(n, 3))]
	}
	return c.names[c.below(n)]
}

// arm: perhaps a call fails soon.
func (c *trial) arm() {
	if c.below(4) == 0 {
		c.disk.Arm(c.below(10), c.below(2) == 0)
	}
	if c.below(3) == 0 {
		c.bucket.Arm(c.below(4), c.below(2) == 0)
	}
}

// next: a name that no block has yet, and its block.
func (c *trial) next(t *testing.T) {
	t.Helper()
	name, err := Next(c.disk, c.now)
	c.note("next", err)
	if err != api.OK {
		if name != "" || err != api.ErrIO && err != api.ErrFull {
			t.Errorf("Next: %q, %d", name, err)
		}
		return
	}
	tick, n, err := ident.Parse(name)
	if err != api.OK || tick != c.now {
		t.Errorf("Next: %q at %d", name, c.now)
	}
	// The number alone is another one each time.
	for _, elder := range c.names {
		if _, m, _ := ident.Parse(elder); m >= n {
			t.Errorf("Next: %q behind %q", name, elder)
		}
	}
	c.built[name] = built(t, name, n)
	c.names = append(c.names, name)
	slices.Sort(c.names)
}

// save: a block; one whose Save answered OK must be there.
func (c *trial) save(t *testing.T) {
	t.Helper()
	f := c.built[c.one()]
	was, room := files(c.disk), size(f) <= c.disk.Free()
	err := Save(c.disk, f)
	c.note("save", err)
	switch {
	case !room:
		want(t, "Save", err, api.ErrFull)
		holds(t, "Save", c.disk, was...)
	case err == api.OK:
		c.sure[f.Meta.ID] = 1
	default:
		want(t, "Save", err, api.ErrIO)
	}
}

// erase: a block; from then on it may be there, or not.
func (c *trial) erase(t *testing.T) {
	t.Helper()
	name := c.one()
	err := Erase(c.disk, name)
	c.note("erase", err)
	delete(c.sure, name)
	if l := c.disk.List("blk-" + name); err == api.OK && len(l) > 0 {
		t.Errorf("Erase: %q", l)
	}
}

// tidy: behind it, if nothing failed, there are files of whole blocks alone.
func (c *trial) tidy(t *testing.T) {
	t.Helper()
	l := Locals(c.disk)
	err := Tidy(c.disk)
	c.note("tidy", err)
	are(t, "Tidy", c.disk, l...)
	if n := len(c.disk.List("blk-")); err == api.OK && n != 3*len(l) {
		t.Errorf("Tidy: %d files of %d blocks", n, len(l))
	}
}

// remember: a note, or that there is none.
func (c *trial) remember(t *testing.T) {
	t.Helper()
	name := c.one()
	if c.below(2) == 0 {
		err := Forget(c.disk, name)
		c.note("forget", err)
		if err == api.OK {
			delete(c.notes, name)
			delete(c.may, name)
		} else {
			want(t, "Forget", err, api.ErrIO)
			c.may[name] = 1
		}
		return
	}
	err := Note(c.disk, Sent{Meta: c.built[name].Meta, At: c.now})
	c.note("note", err)
	switch err {
	case api.OK:
		c.notes[name] = c.now
		delete(c.may, name)
	case api.ErrIO:
		c.may[name] = 1
	default:
		want(t, "Note", err, api.ErrFull)
	}
}

// step: of the upload, or another one's first.
func (c *trial) step(t *testing.T) {
	t.Helper()
	if c.upload == nil || c.upload.Done() {
		f, err := Load(c.disk, c.one())
		if err != api.OK {
			return
		}
		c.upload = NewUpload(f)
	}
	was := c.bucket.Look("")
	err := c.upload.Step(c.bucket, c.now, grace)
	c.note("step", err)
	tick, _, _ := ident.Parse(c.upload.Block().Meta.ID)
	if (err == api.ErrStale) != (c.now-tick >= grace) {
		t.Errorf("Step at %d: %d", c.now, err)
	}
	if err == api.ErrStale {
		if l := c.bucket.Look(""); !slices.Equal(l, was) {
			t.Errorf("Step: %v, not %v", l, was)
		}
		c.upload = nil
	}
}

// note: what a call answered, and what there is behind it.
func (c *trial) note(what string, err api.Errno) {
	c.told = append(append(c.told, what, string(rune('A'+err))), files(c.disk)...)
}

// hold: each meta has its files whole; what must be there is.
func (c *trial) hold(t *testing.T) {
	t.Helper()
	for _, file := range c.disk.List("blk-") {
		if name, isMeta := strings.CutSuffix(file[4:], "-meta"); isMeta {
			loads(t, "a meta", c.disk, name, c.built[name])
		}
	}
	l := Locals(c.disk)
	if !slices.IsSorted(l) {
		t.Errorf("Locals: %q", l)
	}
	for name := range c.sure {
		if !slices.Contains(l, name) {
			t.Errorf("%s isn't there", name)
		}
	}
	c.holdNotes(t)
	for _, o := range c.bucket.Look("") {
		name, part, _ := ident.Split(o.Name)
		f := c.built[name]
		if tick, _, _ := ident.Parse(name); o.At >= tick+grace {
			t.Errorf("%s was put at %d", o.Name, o.At)
		}
		if part != "meta" {
			continue
		}
		said, _ := c.bucket.Peek(o.Name)
		chunks, _ := c.bucket.Peek(name + "/chunks")
		index, _ := c.bucket.Peek(name + "/index")
		if said != meta.Encode(f.Meta) || chunks != f.Chunks || index != f.Index {
			t.Errorf("%s: a meta of what isn't whole", o.Name)
		}
	}
}

// holdNotes: the notes are those that must be there, but for those that may.
func (c *trial) holdNotes(t *testing.T) {
	t.Helper()
	there := map[string]int{}
	for _, s := range Noted(c.disk) {
		there[s.Meta.ID] = s.At
		if !sameMeta(s.Meta, c.built[s.Meta.ID].Meta) {
			t.Errorf("a note of %+v", s.Meta)
		}
	}
	for _, name := range c.names {
		at, is := there[name]
		wanted, must := c.notes[name]
		if c.may[name] == 0 && (is != must || at != wanted) {
			t.Errorf("%s: noted %v, %d, not %v, %d", name, is, at, must, wanted)
		}
	}
}

// act: one of all.
func (c *trial) act(t *testing.T) {
	t.Helper()
	c.now += c.below(2)
	if c.below(4) == 0 {
		c.disk.Clear()
	}
	c.arm()
	switch n := c.below(20); {
	case len(c.names) == 0 || n < 3:
		c.next(t)
	case n < 7:
		c.save(t)
	case n < 9:
		c.erase(t)
	case n == 9:
		c.tidy(t)
	case n < 13:
		c.remember(t)
	case n < 19:
		c.step(t)
	default:
		c.disk.Crash(c.below(50), c.below(50), c.below(50))
		c.bucket.Clear()
		c.upload = nil
	}
}

// P18.1 to P18.4: whatever fails, or crashes, between: metas last, no name twice, nothing put behind the age of grace.
func TestWhateverFails(t *testing.T) {
	for seed := range 300 {
		c := newTrial(seed, []int{600, 2000, 100000}[seed%3])
		for i := range 150 {
			c.act(t)
			c.hold(t)
			if t.Failed() {
				t.Fatalf("seed %d, step %d", seed, i)
			}
		}
		c.disk.Crash()
		c.hold(t)
	}
}

// P18.3: no two names are the same, though all else that fails goes on between, and each tick is asked for often.
func TestNames(t *testing.T) {
	for seed := range 100 {
		r := rolls(seed)
		d := disk.New(100)
		last := 0
		for i := range 300 {
			if r.below(2) == 0 {
				d.Arm(r.below(5), r.below(2) == 0)
			}
			name, err := Next(d, r.below(3))
			if err == api.OK {
				_, n, _ := ident.Parse(name)
				if n <= last {
					t.Fatalf("seed %d, %d: %q behind the number %d", seed, i, name, last)
				}
				last = n
			}
			if r.below(5) == 0 {
				d.Crash(r.below(20), r.below(20))
			}
		}
		if last < 50 {
			t.Errorf("seed %d: %d names", seed, last)
		}
	}
}

// K4: the same calls are answered in the same way.
func TestSameAgain(t *testing.T) {
	var first []string
	for range 3 {
		c := newTrial(11, 2000)
		for range 300 {
			c.act(t)
		}
		if first == nil {
			first = c.told
		}
		if !slices.Equal(first, c.told) {
			t.Fatal("another answer")
		}
	}
}

package ship

import (
	"math"
	"slices"
	"testing"

	"barograph/api"
	"barograph/block"
	"barograph/bucket"
	"barograph/meta"
)

// object: an object's name, its bytes, when it was put.
type object struct {
	name, data string
	at         int
}

// has: are these the bucket's objects, by rising names?
func has(t *testing.T, what string, b *bucket.Bucket, wanted ...object) {
	t.Helper()
	var l []object
	for _, o := range b.Look("") {
		data, _ := b.Peek(o.Name)
		l = append(l, object{o.Name, data, o.At})
	}
	if !slices.Equal(l, wanted) {
		t.Errorf("%s: %v, not %v", what, l, wanted)
	}
}

// steps: does a Step end so, and is the upload done then?
func steps(t *testing.T, what string, u *Upload, b *bucket.Bucket, now, grace int, wanted api.Errno, done bool) {
	t.Helper()
	if err := u.Step(b, now, grace); err != wanted || u.Done() != done {
		t.Errorf("%s: Step at %d: %d, %v, not %d", what, now, err, u.Done(), wanted)
	}
}

// P18.1, P18.2: chunks, index, meta, one call each, each at its tick.
func TestUpload(t *testing.T) {
	name := id(33, 1)
	f := built(t, name, 3, id(1, 1))
	chunks, index, said := object{name + "/chunks", f.Chunks, 33}, object{name + "/index", f.Index, 40}, object{name + "/meta", meta.Encode(f.Meta), 42}
	b := bucket.New()
	u := NewUpload(f)
	has(t, "NewUpload", b)
	if u.Done() || !same(u.Block(), f) {
		t.Errorf("NewUpload: %v, %+v", u.Done(), u.Block().Meta)
	}
	for i, wanted := range [][]object{{chunks}, {chunks, index}, {chunks, index, said}} {
		b.Arm(1, false)
		steps(t, "a Step", u, b, wanted[i].at, 10, api.OK, i == 2)
		untried(t, "not one call", b.Fuse)
		has(t, "a Step", b, wanted...)
	}
	b.Arm(0, true)
	steps(t, "done", u, b, 42, 10, api.ErrIdle, true)
	steps(t, "done, too late", u, b, 1000, 10, api.ErrIdle, true)
	untried(t, "done", b.Fuse)
	has(t, "done", b, chunks, index, said)
	if !same(u.Block(), f) {
		t.Errorf("done: %+v", u.Block().Meta)
	}
}

// P18.1, P18.2: a Put that fails is done again by the next Step, whether it was done or not; the others wait.
func TestUploadFails(t *testing.T) {
	name := id(33, 1)
	f := built(t, name, 3)
	for _, done := range []bool{false, true} {
		b := bucket.New()
		u := NewUpload(f)
		all := []object{{name + "/chunks", f.Chunks, 0}, {name + "/index", f.Index, 0}, {name + "/meta", meta.Encode(f.Meta), 0}}
		var there []object
		now := 33
		for i, o := range all {
			for range 3 {
				now++
				b.Arm(0, done)
				steps(t, "fails", u, b, now, 100, api.ErrIO, false)
				o.at = now
				if done {
					has(t, "fails", b, append(slices.Clone(there), o)...)
				} else {
					has(t, "fails", b, there...)
				}
			}
			now++
			steps(t, "again", u, b, now, 100, api.OK, i == 2)
			o.at = now
			there = append(there, o)
			has(t, "again", b, there...)
		}
		steps(t, "done", u, b, now, 100, api.ErrIdle, true)
	}
}

// P18.4: at the age of grace, and behind it, nothing is put, whatever was put ahead; the fuse isn't tried.
func TestStale(t *testing.T) {
	name := id(33, 1)
	f := built(t, name, 3)
	for n := range 3 {
		b := bucket.New()
		u := NewUpload(f)
		for range n {
			steps(t, "ahead", u, b, 42, 10, api.OK, false)
		}
		was := b.Look("")
		b.Arm(0, true)
		for _, c := range [][2]int{{43, 10}, {44, 10}, {33, 0}, {1 << 40, 10}, {math.MaxInt, 10}, {0, -33}, {0, math.MinInt}} {
			steps(t, "late", u, b, c[0], c[1], api.ErrStale, false)
		}
		untried(t, "late", b.Fuse)
		if l := b.Look(""); !slices.Equal(l, was) {
			t.Errorf("late: %v, not %v", l, was)
		}
		for i := n; i < 3; i++ {
			steps(t, "not late", u, b, 42, 10, api.OK, i == 2)
		}
	}
}

// P18.1: what is late: no name, or one at least grace behind its tick.
func TestLate(t *testing.T) {
	for _, c := range []struct {
		id         string
		now, grace int
		late       bool
	}{
		{id(33, 1), 33, 1, false},
		{id(33, 1), 33, 0, true},
		{id(33, 1), 34, 1, true},
		{id(33, 1), 42, 10, false},
		{id(33, 1), 43, 10, true},
		{id(33, 1), 44, 10, true},
		{id(33, 1<<39), 42, 10, false},
		{id(33, 1), 0, 10, false},
		{id(33, 1), 0, 0, false},
		{id(33, 1), 0, -32, false},
		{id(33, 1), 0, -33, true},
		{id(0, 1), 0, 1, false},
		{id(0, 1), 0, 0, true},
		{id(0, 1), math.MaxInt - 1, math.MaxInt, false},
		{id(0, 1), math.MaxInt, math.MaxInt, true},
		{id(1, 1), math.MaxInt, math.MaxInt, false},
		{id(1<<40-1, 1), 1 << 40, 2, false},
		{id(1<<40-1, 1), 1<<40 + 1, 2, true},
		{id(33, 1), 0, math.MinInt, true},
		{"", 0, 10, true},
		{"x", 0, math.MaxInt, true},
		{id(33, 1)[1:], 33, 10, true},
		{id(33, 1) + "0", 33, 10, true},
		{"i" + id(33, 1)[1:], 33, 10, true},
		{"blk-000000000000", 33, 10, true},
	} {
		if late := Late(c.id, c.now, c.grace); late != c.late {
			t.Errorf("Late %q, %d, %d: %v", c.id, c.now, c.grace, late)
		}
	}
}

// K3: an upload keeps nothing that it is handed, and hands out nothing that it keeps.
func TestUploadIsOwn(t *testing.T) {
	plain := func() block.Files { return built(t, id(33, 1), 3, id(1, 1), id(1, 2)) }
	f := plain()
	u := NewUpload(f)
	f.Meta.Files[0], f.Meta.Sources[0] = meta.File{}, "x"
	if !same(u.Block(), plain()) {
		t.Errorf("what was handed in: %+v", u.Block().Meta)
	}
	g := u.Block()
	g.Meta.Files[1], g.Meta.Sources[1] = meta.File{}, "y"
	if !same(u.Block(), plain()) {
		t.Errorf("what was answered: %+v", u.Block().Meta)
	}
	b := bucket.New()
	for i := range 3 {
		steps(t, "a Step", u, b, 33, 10, api.OK, i == 2)
	}
	if said, _ := b.Peek(id(33, 1) + "/meta"); said != meta.Encode(plain().Meta) {
		t.Errorf("the meta: %q", said)
	}
}

package ship

import (
	"slices"
	"strings"
	"testing"

	"barograph/api"
	"barograph/disk"
	"barograph/meta"
)

// sent: a block that was shipped at a tick.
func sent(t *testing.T, id string, at int) Sent {
	t.Helper()
	return Sent{Meta: built(t, id, at, strings.Repeat("0", 16)).Meta, At: at}
}

// spelt: a note's bytes.
func spelt(s Sent) string {
	return meta.Encode(s.Meta) + meta.EncodeMark(s.Meta.ID, s.At)
}

// noted: is this noted?
func noted(t *testing.T, what string, d *disk.Disk, wanted ...Sent) {
	t.Helper()
	l := Noted(d)
	if !slices.EqualFunc(l, wanted, func(x, y Sent) bool { return sameMeta(x.Meta, y.Meta) && x.At == y.At }) {
		t.Errorf("%s: Noted: %+v, not %+v", what, l, wanted)
	}
}

// P18.1: what is noted is there, behind a crash, too, until it is forgotten; by rising names.
func TestNote(t *testing.T) {
	a, b, c := sent(t, id(5, 1), 0), sent(t, id(5, 2), 33), sent(t, id(6, 1), 1<<40)
	d := disk.New(5000)
	noted(t, "nothing", d)
	want(t, "Note", Note(d, c), api.OK)
	want(t, "Note", Note(d, a), api.OK)
	want(t, "Note", Note(d, b), api.OK)
	d.Crash()
	holds(t, "three", d, "shp-"+id(5, 1), spelt(a), "shp-"+id(5, 2), spelt(b), "shp-"+id(6, 1), spelt(c))
	noted(t, "three", d, a, b, c)
	want(t, "Forget", Forget(d, id(5, 2)), api.OK)
	holds(t, "two", d, "shp-"+id(5, 1), spelt(a), "shp-"+id(6, 1), spelt(c))
	noted(t, "two", d, a, c)
	again := sent(t, id(5, 1), 44)
	want(t, "Note", Note(d, again), api.OK)
	noted(t, "again", d, again, c)
	want(t, "Forget", Forget(d, id(5, 1)), api.OK)
	want(t, "Forget", Forget(d, id(6, 1)), api.OK)
	noted(t, "none", d)
	holds(t, "none", d)
}

// P18.1: a note that has more bytes than are free changes nothing; an elder one's, and an unfinished file's, aren't free.
func TestNoteFull(t *testing.T) {
	s := sent(t, id(5, 1), 7)
	n := len(spelt(s))
	d := disk.New(n - 1)
	d.Arm(0, true)
	want(t, "a byte too few", Note(d, s), api.ErrFull)
	untried(t, "a byte too few", d.Fuse)
	holds(t, "a byte too few", d)
	d = disk.New(n)
	want(t, "all that is free", Note(d, s), api.OK)
	want(t, "again", Note(d, s), api.ErrFull)
	noted(t, "again", d, s)
	d = disk.New(n)
	put(d, "tmp-wal", "x")
	want(t, "an unfinished file", Note(d, s), api.ErrFull)
	holds(t, "an unfinished file", d, "tmp-wal", "x")
}

// P18.1: it is written, synced, renamed; behind the first call that fails it is there whole, or isn't.
func TestNoteFails(t *testing.T) {
	elder, s := sent(t, id(5, 1), 7), sent(t, id(5, 1), 8)
	for after := range 3 {
		for _, done := range []bool{false, true} {
			d := disk.New(5000)
			want(t, "elder", Note(d, elder), api.OK)
			d.Arm(after, done)
			want(t, "Note", Note(d, s), api.ErrIO)
			d.Crash()
			if after == 2 && done {
				noted(t, "done", d, s)
			} else {
				noted(t, "not done", d, elder)
			}
			want(t, "again", Note(d, s), api.OK)
			d.Crash()
			noted(t, "again", d, s)
		}
	}
	d := disk.New(5000)
	d.Arm(3, false)
	want(t, "three calls", Note(d, s), api.OK)
	if works, _ := d.Try(); works {
		t.Error("not three calls")
	}
}

// P18.1: files that aren't a meta and a mark of its block are passed over.
func TestNoted(t *testing.T) {
	s := sent(t, id(5, 1), 7)
	m, mark := meta.Encode(s.Meta), meta.EncodeMark(id(5, 1), 7)
	for _, c := range []struct {
		what, bytes string
		is          bool
	}{
		{"a note", m + mark, true},
		{"nothing", "", false},
		{"junk", "junk", false},
		{"a meta alone", m, false},
		{"a mark alone", mark, false},
		{"the other way round", mark + m, false},
		{"a byte ahead", "\x01" + m + mark, false},
		{"a byte between", m + "\x02" + mark, false},
		{"a byte behind", m + mark + "\x02", false},
		{"two metas", m + m, false},
		{"two marks", mark + mark, false},
		{"a mark more", m + mark + mark, false},
		{"a meta more", m + m + mark, false},
		{"cut", (m + mark)[:len(m+mark)-1], false},
		{"a mark of another block", m + meta.EncodeMark(id(5, 2), 7), false},
		{"a mark of no block", m + record(2, "\x00\x07"), false},
		{"a mark of too late a tick", m + record(2, "\x10"+id(5, 1)+number(1<<40+1)), false},
		{"a mark of the last tick", m + meta.EncodeMark(id(5, 1), 1<<40), true},
		{"a record of another kind", m + record(3, mark[6:]), false},
		{"a meta that isn't one", record(1, "x") + mark, false},
		{"a byte of the meta is another one", m[:9] + "\xff" + m[10:] + mark, false},
		{"a byte of the mark is another one", m + mark[:9] + "\xff" + mark[10:], false},
	} {
		d := disk.New(5000)
		put(d, "shp-"+id(5, 1), c.bytes)
		other := sent(t, id(9, 1), 3)
		want(t, "another", Note(d, other), api.OK)
		d.Arm(0, true)
		if l := Noted(d); c.is != (len(l) == 2) || !sameMeta(l[len(l)-1].Meta, other.Meta) || l[len(l)-1].At != 3 {
			t.Errorf("%s: %+v", c.what, l)
		}
		untried(t, "Noted", d.Fuse)
		want(t, "Forget", Forget(d, id(5, 1)), api.OK)
		noted(t, c.what, d, other)
	}
}

// P18.1: files of other names are no notes.
func TestNotedNames(t *testing.T) {
	s := sent(t, id(5, 1), 7)
	d := disk.New(9000)
	for _, name := range []string{"SHP-" + id(5, 1), "shp", "shp_" + id(5, 1), "blk-" + id(5, 1), "xshp-" + id(5, 1)} {
		put(d, name, spelt(s))
	}
	noted(t, "other names", d)
	lay(d, id(5, 1), built(t, id(5, 1), 3))
	want(t, "Note", Note(d, s), api.OK)
	noted(t, "one", d, s)
	are(t, "one", d, id(5, 1))
	want(t, "Tidy", Tidy(d), api.OK)
	noted(t, "Tidy", d, s)
}

// P18.1: what isn't noted may be forgotten; a call that fails.
func TestForget(t *testing.T) {
	d := disk.New(5000)
	d.Arm(0, true)
	want(t, "none", Forget(d, id(5, 1)), api.OK)
	untried(t, "none", d.Fuse)
	s := sent(t, id(5, 1), 7)
	want(t, "Note", Note(d, s), api.OK)
	d.Arm(0, false)
	want(t, "not done", Forget(d, id(5, 1)), api.ErrIO)
	noted(t, "not done", d, s)
	want(t, "another", Forget(d, id(5, 2)), api.OK)
	noted(t, "another", d, s)
	d.Arm(0, true)
	want(t, "done", Forget(d, id(5, 1)), api.ErrIO)
	noted(t, "done", d)
	want(t, "again", Forget(d, id(5, 1)), api.OK)
}

// K3: what is handed in stays, what was answered is the caller's own.
func TestNotesAreOwn(t *testing.T) {
	s := sent(t, id(5, 1), 7)
	d := disk.New(5000)
	want(t, "Note", Note(d, s), api.OK)
	if !sameMeta(s.Meta, sent(t, id(5, 1), 7).Meta) {
		t.Error("Note changed what it was handed")
	}
	l := Noted(d)
	l[0].Meta.Files[0], l[0].Meta.Sources[0], l[0].At = meta.File{}, "x", 9
	s.Meta.Files[1], s.Meta.Sources[0] = meta.File{}, "y"
	noted(t, "again", d, sent(t, id(5, 1), 7))
}

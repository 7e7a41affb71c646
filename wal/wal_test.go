package wal

import (
	"math"
	"slices"
	"strings"
	"testing"

	"barograph/api"
	"barograph/disk"
	"barograph/frame"
)

// want: did a call end so?
func want(t *testing.T, what string, got, wanted api.Errno) {
	t.Helper()
	if got != wanted {
		t.Errorf("%s: %d, not %d", what, got, wanted)
	}
}

// recs: a record of each text.
func recs(texts ...string) []frame.Rec {
	var l []frame.Rec
	for i, s := range texts {
		l = append(l, frame.Rec{Kind: byte(1 + i%3), Data: s})
	}
	return l
}

// rec: one record.
func rec(s string) frame.Rec {
	return recs(s)[0]
}

// spelled: the bytes of records.
func spelled(l ...frame.Rec) string {
	var b []byte
	for _, r := range l {
		b = append(b, frame.Append(nil, r)...)
	}
	return string(b)
}

// reset: what a restarted log's segment begins with.
func reset() string {
	return spelled(frame.Rec{Kind: Reset})
}

// opened: the log of a disk that has just these records.
func opened(t *testing.T, what string, d *disk.Disk, limit int, wanted ...frame.Rec) *Log {
	t.Helper()
	w, l, err := Open(d, limit)
	if err != api.OK || !slices.Equal(l, wanted) {
		t.Fatalf("%s: Open: %v, %d, not %v", what, l, err, wanted)
	}
	if w.Broken() {
		t.Errorf("%s: broken", what)
	}
	return w
}

// files: the names and the bytes of what a disk has, in turn.
func files(d *disk.Disk) []string {
	var l []string
	for _, name := range d.List("") {
		s, _ := d.Read(name)
		l = append(l, name, s)
	}
	return l
}

// holds: does a disk have these files, no others? Names and bytes come in turn, names rising.
func holds(t *testing.T, what string, d *disk.Disk, wanted ...string) {
	t.Helper()
	if l := files(d); !slices.Equal(l, wanted) {
		t.Errorf("%s: %q, not %q", what, l, wanted)
	}
}

// put: a file of these bytes, all there for sure.
func put(d *disk.Disk, name, s string) {
	d.Append(name, s)
	d.Sync(name)
}

// P11.1: the kind that the chapter gives.
func TestReset(t *testing.T) {
	if Reset != 255 {
		t.Errorf("%d", Reset)
	}
}

// P11.1: a segment's number in eight digits at least.
func TestName(t *testing.T) {
	for seg, name := range map[int]string{
		1: "wal-00000001", 2: "wal-00000002", 10: "wal-00000010", 12345: "wal-00012345", 9999999: "wal-09999999", 10000000: "wal-10000000",
		99999999: "wal-99999999", 100000000: "wal-100000000", 123456789012: "wal-123456789012", 1 << 40: "wal-1099511627776",
	} {
		if s := Name(seg); s != name {
			t.Errorf("%d: %q", seg, s)
		}
	}
}

// K1, K7: Name of any number ends.
func TestNameOfAny(t *testing.T) {
	for _, seg := range []int{math.MinInt, -1, 0, 1<<40 + 1, math.MaxInt} {
		if Name(seg) != Name(seg) {
			t.Errorf("%d", seg)
		}
	}
}

// P11.1, P11.2: the chapter's example.
func TestExample(t *testing.T) {
	a, b, c := rec("a"), frame.Rec{Kind: 7, Data: "b"}, rec("c")
	for _, x := range []struct {
		after int
		done  bool
		left  int
		want  []frame.Rec
	}{
		{0, false, 0, []frame.Rec{a, b}},
		{0, true, 0, []frame.Rec{a, b}},
		{0, true, 6, []frame.Rec{a, b}},
		{0, true, 7, []frame.Rec{a, b, c}},
		{1, false, 6, []frame.Rec{a, b}},
		{1, false, 7, []frame.Rec{a, b, c}},
		{1, true, 0, []frame.Rec{a, b, c}},
	} {
		d := disk.New(1000)
		w := opened(t, "new", d, 100)
		want(t, "Append a, b", w.Append(a, b), api.OK)
		d.Arm(x.after, x.done)
		want(t, "Append c", w.Append(c), api.ErrIO)
		d.Crash(x.left)
		opened(t, "behind a crash", d, 100, x.want...)
	}
}

// P11.1: a log of an empty disk has no records, and no file ahead of the first Append.
func TestEmpty(t *testing.T) {
	d := disk.New(100)
	w := opened(t, "empty", d, 10)
	if w.Segment() != 1 {
		t.Errorf("segment %d", w.Segment())
	}
	holds(t, "empty", d)
	want(t, "none", w.Append(), api.OK)
	want(t, "nil", w.Append([]frame.Rec(nil)...), api.OK)
	want(t, "empty", w.Append([]frame.Rec{}...), api.OK)
	holds(t, "no records", d)
}

// P11.1: records lie one behind the other in the segment's file, whatever their kinds and bytes.
func TestAppend(t *testing.T) {
	d := disk.New(1000)
	w := opened(t, "new", d, 1000)
	l := []frame.Rec{{}, {Kind: 1}, {Kind: 254, Data: "\x00\xff"}, {Kind: 2, Data: strings.Repeat("x", 200)}, {Kind: 2, Data: reset()}}
	want(t, "one", w.Append(l[0]), api.OK)
	want(t, "two", w.Append(l[1], l[2]), api.OK)
	holds(t, "three", d, "wal-00000001", spelled(l[:3]...))
	want(t, "none", w.Append(), api.OK)
	want(t, "two more", w.Append(l[3:]...), api.OK)
	holds(t, "all", d, "wal-00000001", spelled(l...))
	opened(t, "again", d, 1000, l...)
	d.Crash()
	opened(t, "behind a crash", d, 1000, l...)
}

// P11.1: the next number is written where a segment that isn't empty would have more than limit bytes, not where it would have as many.
func TestLimit(t *testing.T) {
	one := len(spelled(rec("x")))
	for _, c := range []struct {
		limit int
		sizes []int // how many records each Append has
		want  []int // how many each segment has
	}{
		{3 * one, []int{1, 1, 1, 1}, []int{3, 1}},
		{3*one - 1, []int{1, 1, 1, 1}, []int{2, 2}},
		{3*one + 1, []int{1, 1, 1, 1}, []int{3, 1}},
		{3 * one, []int{2, 2, 1, 3}, []int{2, 3, 3}},
		{3 * one, []int{4, 1, 2, 5, 0, 1}, []int{4, 3, 5, 1}},
		{one, []int{1, 1, 1}, []int{1, 1, 1}},
		{1, []int{1, 3, 1}, []int{1, 3, 1}},
		{0, []int{1, 1}, []int{1, 1}},
		{-1, []int{1, 1}, []int{1, 1}},
		{math.MinInt, []int{1, 1}, []int{1, 1}},
		{math.MaxInt, []int{9, 9, 9}, []int{27}},
	} {
		for _, again := range []bool{false, true} {
			d := disk.New(1000)
			w := opened(t, "new", d, c.limit)
			var l []frame.Rec
			for _, n := range c.sizes {
				if again {
					w = opened(t, "again", d, c.limit, l...)
				}
				more := recs(slices.Repeat([]string{"x"}, n)...)
				want(t, "Append", w.Append(more...), api.OK)
				l = append(l, more...)
			}
			var got []int
			for _, name := range d.List("") {
				s, _ := d.Read(name)
				got = append(got, len(s)/one)
			}
			if !slices.Equal(got, c.want) || w.Segment() != len(c.want) {
				t.Errorf("limit %d, %v, opened again %v: %v, segment %d", c.limit, c.sizes, again, got, w.Segment())
			}
			opened(t, "at the end", d, c.limit, l...)
		}
	}
}

// P11.3: records for which there are a byte too few change nothing, and the log isn't broken; with as many as they have they go.
func TestAppendFull(t *testing.T) {
	l := recs("abc", "de", "")
	for _, limit := range []int{1, 1000} {
		d := disk.New(10 + len(spelled(l...)))
		w := opened(t, "new", d, limit)
		want(t, "the first", w.Append(frame.Rec{Kind: 9, Data: "first"}), api.OK)
		put(d, "other", strings.Repeat("o", d.Free()-len(spelled(l...))+1))
		was, seg := files(d), w.Segment()
		d.Arm(0, true)
		want(t, "a byte too few", w.Append(l...), api.ErrFull)
		want(t, "no records", w.Append(), api.OK)
		d.Clear()
		holds(t, "full", d, was...)
		if w.Broken() || w.Segment() != seg {
			t.Errorf("full: broken %v, segment %d", w.Broken(), w.Segment())
		}
		want(t, "less", w.Append(l[:2]...), api.OK)
		opened(t, "less", d, limit, append([]frame.Rec{{Kind: 9, Data: "first"}}, l[:2]...)...)
	}
	d := disk.New(len(spelled(l...)))
	w := opened(t, "new", d, 5)
	want(t, "all that is free", w.Append(l...), api.OK)
	if d.Free() != 0 {
		t.Errorf("%d free", d.Free())
	}
	want(t, "one more", w.Append(frame.Rec{}), api.ErrFull)
	opened(t, "full", d, 5, l...)
	w = opened(t, "no room", disk.New(0), 5)
	want(t, "no room", w.Append(frame.Rec{}), api.ErrFull)
	want(t, "no room, no records", w.Append(), api.OK)
}

// P11.2: a record of more bytes than can be read again is refused, or kept; what was there is kept.
func TestAppendBig(t *testing.T) {
	most, over := rec(strings.Repeat("m", frame.Max)), rec(strings.Repeat("m", frame.Max+1))
	d := disk.New(8 << 20)
	w := opened(t, "new", d, 100)
	want(t, "2^20", w.Append(rec("a"), most), api.OK)
	l := []frame.Rec{rec("a"), most}
	was := files(d)
	if err := w.Append(rec("b"), over, rec("c")); err == api.OK {
		l = append(l, rec("b"), over, rec("c"))
	} else {
		holds(t, "2^20 + 1", d, was...)
	}
	want(t, "behind it", w.Append(rec("d")), api.OK)
	l = append(l, rec("d"))
	w = opened(t, "2^20 + 1", d, 100, l...)
	was = files(d)
	if err := w.Restart(rec("e"), over); err == api.OK {
		l = []frame.Rec{rec("e"), over}
	} else {
		holds(t, "Restart", d, was...)
	}
	want(t, "behind it", w.Append(rec("f")), api.OK)
	opened(t, "Restart", d, 100, append(l, rec("f"))...)
}

// P11.2: an Append is one call that writes, and one that syncs, of whatever segment; a failed one breaks the log.
func TestAppendFails(t *testing.T) {
	first, more := recs("first"), recs("one", "two", "three")
	whole := spelled(more...)
	for _, limit := range []int{1, 1000} {
		for after := range 3 {
			for _, done := range []bool{false, true} {
				d := disk.New(1000)
				w := opened(t, "new", d, limit)
				want(t, "first", w.Append(first...), api.OK)
				d.Arm(after, done)
				if after == 2 {
					want(t, "two calls", w.Append(more...), api.OK)
					want(t, "the third", w.Append(more...), api.ErrIO)
					continue
				}
				want(t, "fails", w.Append(more...), api.ErrIO)
				broken(t, "Append", d, w)
				there := ""
				if after == 1 || done {
					there = whole
				}
				was := spelled(first...)
				switch {
				case limit == 1000:
					holds(t, "one segment", d, Name(1), was+there)
				case there == "":
					holds(t, "not done", d, Name(1), was)
				default:
					holds(t, "two segments", d, Name(1), was, Name(2), there)
				}
			}
		}
	}
}

// broken: a log that is broken takes nothing any more, and changes nothing, until it is opened anew.
func broken(t *testing.T, what string, d *disk.Disk, w *Log) {
	t.Helper()
	if !w.Broken() {
		t.Errorf("%s: not broken", what)
	}
	was, seg := files(d), w.Segment()
	d.Arm(0, true)
	want(t, what+": Append", w.Append(rec("x")), api.ErrDown)
	want(t, what+": Append of nothing", w.Append(), api.ErrDown)
	want(t, what+": Append of much", w.Append(rec(strings.Repeat("x", 100000))), api.ErrDown)
	want(t, what+": Restart", w.Restart(), api.ErrDown)
	want(t, what+": Restart of much", w.Restart(rec(strings.Repeat("x", 100000))), api.ErrDown)
	if works, _ := d.Try(); works {
		t.Errorf("%s: the fuse was tried", what)
	}
	d.Clear()
	holds(t, what, d, was...)
	if !w.Broken() || w.Segment() != seg {
		t.Errorf("%s: not broken any more, segment %d", what, w.Segment())
	}
	if _, _, err := Open(d, 100); err != api.OK || !w.Broken() {
		t.Errorf("%s: opened anew: %d", what, err)
	}
	want(t, what+": the elder one", w.Append(rec("x")), api.ErrDown)
}

// K3: records that are handed in stay as they are; what Open answered changes nothing, and is not changed.
func TestListsAreOwn(t *testing.T) {
	d := disk.New(1000)
	w := opened(t, "new", d, 30)
	l := append(make([]frame.Rec, 0, 9), recs("a", "b", "c")...)
	was := slices.Clone(l[:9])
	want(t, "Append", w.Append(l[:2]...), api.OK)
	want(t, "Restart", w.Restart(l[:2]...), api.OK)
	if !slices.Equal(l[:9], was) {
		t.Errorf("the list: %v", l[:9])
	}
	w, got, _ := Open(d, 30)
	_, other, _ := Open(d, 30)
	kept := slices.Clone(other)
	got[0] = rec("another")
	_ = append(got, rec("another"))
	l[0] = rec("another")
	want(t, "Append", w.Append(rec("d")), api.OK)
	want(t, "Restart", w.Restart(rec("e")), api.OK)
	if !slices.Equal(other, kept) {
		t.Errorf("what was answered: %v", other)
	}
	opened(t, "at the end", d, 30, rec("e"))
}

// P11.1: many records at once.
func TestMany(t *testing.T) {
	var l []frame.Rec
	for i := range 100000 {
		l = append(l, frame.Rec{Kind: byte(i % 255), Data: strings.Repeat("x", i%7)})
	}
	d := disk.New(1 << 24)
	w := opened(t, "new", d, 1<<12)
	want(t, "Append", w.Append(l...), api.OK)
	opened(t, "Append", d, 1<<12, l...)
	slices.Reverse(l)
	want(t, "Restart", w.Restart(l...), api.OK)
	opened(t, "Restart", d, 1<<12, l...)
}

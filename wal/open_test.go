package wal

import (
	"slices"
	"strings"
	"testing"

	"barograph/api"
	"barograph/disk"
	"barograph/frame"
)

// P11.1: what is cut off anywhere is read to the last record that is whole, and cut there, for sure; more goes behind it.
func TestOpenCutOff(t *testing.T) {
	l := recs("one", "", "three")
	whole := spelled(l...)
	for cut := range len(whole) + 1 {
		n := 0
		for n < len(l) && len(spelled(l[:n+1]...)) <= cut {
			n++
		}
		for _, synced := range []bool{false, true} {
			d := disk.New(1000)
			d.Append(Name(1), whole[:cut])
			if synced {
				d.Sync(Name(1))
			}
			w := opened(t, "cut off", d, 1000, l[:n]...)
			holds(t, "cut off", d, Name(1), spelled(l[:n]...))
			d.Crash()
			holds(t, "behind a crash", d, Name(1), spelled(l[:n]...))
			want(t, "Append", w.Append(rec("more")), api.OK)
			d.Crash()
			opened(t, "more", d, 1000, append(l[:n:n], rec("more"))...)
		}
	}
}

// P11.1: a record of which a byte is another one is cut off, with all behind it in its segment; the next segment's count.
func TestOpenOtherBytes(t *testing.T) {
	l := recs("one", "two", "three")
	for at := range len(spelled(l[:2]...)) {
		if at == 1 || at == 1+len(spelled(l[0])) {
			continue // how many bytes a record has isn't summed
		}
		n := 0
		if at >= len(spelled(l[0])) {
			n = 1
		}
		b := []byte(spelled(l...))
		b[at] ^= 0x10
		d := disk.New(1000)
		put(d, Name(1), string(b))
		put(d, Name(2), spelled(rec("next")))
		opened(t, "another byte", d, 1000, append(l[:n:n], rec("next"))...)
		holds(t, "another byte", d, Name(1), spelled(l[:n]...), Name(2), spelled(rec("next")))
	}
}

// P11.2: behind Open all that it answered is there for sure, in each segment.
func TestOpenSyncs(t *testing.T) {
	d := disk.New(1000)
	d.Append(Name(1), spelled(recs("a", "b")...))
	d.Append(Name(2), spelled(rec("c"))+"torn")
	d.Append(Name(3), spelled(rec("d")))
	l := append(recs("a", "b"), rec("c"), rec("d"))
	opened(t, "first", d, 1000, l...)
	d.Crash()
	opened(t, "behind a crash", d, 1000, l...)
}

// P11.1: segments go by rising numbers, not by their names' order, and the last one is written.
func TestOpenByNumbers(t *testing.T) {
	for _, segs := range [][]int{{1, 2, 3}, {7}, {2, 4, 9, 10, 11}, {99999998, 99999999, 100000000, 100000001}, {1, 20000000, 100000000}, {5, 99999999999, 100000000000}, {1, 1<<40 - 2}} {
		d := disk.New(10000)
		var l []frame.Rec
		for i, seg := range segs {
			put(d, Name(seg), spelled(rec(strings.Repeat("x", i))))
			l = append(l, rec(strings.Repeat("x", i)))
		}
		w := opened(t, "Open", d, 1, l...)
		last := segs[len(segs)-1]
		if w.Segment() != last {
			t.Errorf("%v: segment %d", segs, w.Segment())
		}
		want(t, "Append", w.Append(rec("more")), api.OK)
		l = append(l, rec("more"))
		if s, _ := d.Read(Name(last + 1)); s != spelled(rec("more")) || w.Segment() != last+1 {
			t.Errorf("%v: %q, segment %d", segs, s, w.Segment())
		}
		opened(t, "again", d, 1, l...)
		want(t, "Restart", w.Restart(rec("new")), api.OK)
		holds(t, "Restart", d, Name(last+2), reset()+spelled(rec("new")))
	}
}

// P11.1: other files are no segments: they are neither read nor written, synced, or removed.
func TestOpenOtherFiles(t *testing.T) {
	others := []string{"WAL-00000001", "blk-x-meta", "seq", "tmp-wal", "wal", "wal-", "wal-+0000001", "wal--0000001", "wal--9999999", "wal-00000000", "wal-0000001", "wal-0000000a", "wal-00000002.", "wal-1", "wal-1099511627777", "wal-99999999999999999999", "wal-x", "wal00000001", "wal_00000001", "xwal-00000001"}
	d := disk.New(10000)
	for _, name := range others {
		d.Append(name, spelled(rec(name))+"torn")
	}
	was := files(d)
	w := opened(t, "others alone", d, 1)
	if w.Segment() != 1 {
		t.Errorf("segment %d", w.Segment())
	}
	holds(t, "others alone", d, was...)
	want(t, "Append", w.Append(rec("a")), api.OK)
	opened(t, "Append", d, 1, rec("a"))
	d.Remove("tmp-wal")
	want(t, "Restart", w.Restart(rec("b")), api.OK)
	opened(t, "Restart", d, 1, rec("b"))
	for _, name := range others {
		if s, err := d.Read(name); name != "tmp-wal" && (err != api.OK || s != spelled(rec(name))+"torn") {
			t.Errorf("%s: %q, %d", name, s, err)
		}
	}
	d.Crash()
	if s, _ := d.Read("wal-x"); s != "" {
		t.Errorf("synced: %q", s)
	}
}

// P11.1: records count behind the last one of kind Reset, wherever it lies, and whatever it has.
func TestOpenReset(t *testing.T) {
	r := frame.Rec{Kind: Reset}
	full := frame.Rec{Kind: Reset, Data: "bytes"}
	a, b, c := rec("a"), rec("b"), rec("c")
	for _, x := range []struct {
		segs [][]frame.Rec
		want []frame.Rec
	}{
		{[][]frame.Rec{{r}}, nil},
		{[][]frame.Rec{{r, a}}, []frame.Rec{a}},
		{[][]frame.Rec{{a, r}}, nil},
		{[][]frame.Rec{{a, r, b}}, []frame.Rec{b}},
		{[][]frame.Rec{{a, full, b, c}}, []frame.Rec{b, c}},
		{[][]frame.Rec{{r, a, r, b, r, c}}, []frame.Rec{c}},
		{[][]frame.Rec{{a}, {r, b}, {c}}, []frame.Rec{b, c}},
		{[][]frame.Rec{{a}, {b}, {r, c}}, []frame.Rec{c}},
		{[][]frame.Rec{{r, a}, {b}, {c}}, []frame.Rec{a, b, c}},
		{[][]frame.Rec{{r, a}, {r, b}, {}}, []frame.Rec{b}},
		{[][]frame.Rec{{a}, {b, r}, {c}}, []frame.Rec{c}},
		{[][]frame.Rec{{a, b}, {c}, {full}}, nil},
	} {
		d := disk.New(1000)
		for i, l := range x.segs {
			put(d, Name(i+3), spelled(l...))
		}
		was := files(d)
		w := opened(t, "Reset", d, 1000, x.want...)
		holds(t, "Reset", d, was...)
		want(t, "Append", w.Append(a), api.OK)
		opened(t, "Append", d, 1000, append(x.want, a)...)
	}
}

// P11.1: the log goes on in the last segment, with as many bytes as that has; in an empty one, too.
func TestOpenGoesOn(t *testing.T) {
	one := len(spelled(rec("x")))
	for _, c := range []struct {
		bytes string
		n     int // how many records the segment has
		seg   int // the one that one more goes to, where the limit is two of them
	}{
		{"", 0, 5},
		{"torn", 0, 5},
		{spelled(rec("x")), 1, 5},
		{spelled(rec("x")) + spelled(rec("x"))[:one-1], 1, 5},
		{spelled(rec("x"), rec("x")), 2, 6},
		{spelled(rec("x"), rec("x"), rec("x")), 3, 6},
	} {
		d := disk.New(1000)
		put(d, Name(4), spelled(rec("first")))
		put(d, Name(5), c.bytes)
		l := append([]frame.Rec{rec("first")}, slices.Repeat([]frame.Rec{rec("x")}, c.n)...)
		w := opened(t, "goes on", d, 2*one, l...)
		if w.Segment() != 5 {
			t.Errorf("%q: segment %d", c.bytes, w.Segment())
		}
		want(t, "Append", w.Append(rec("x")), api.OK)
		if w.Segment() != c.seg {
			t.Errorf("%q, one more: segment %d, not %d", c.bytes, w.Segment(), c.seg)
		}
		opened(t, "one more", d, 2*one, append(l, rec("x"))...)
	}
}

// P11.1, K2: one call of the disk a segment; the first that fails is the last: there is no log, and nothing is lost.
func TestOpenFails(t *testing.T) {
	names := []string{Name(1), Name(2), Name(3)}
	bytes := []string{spelled(recs("a", "b")...), spelled(rec("c")) + "torn", spelled(rec("d"))}
	l := append(recs("a", "b"), rec("c"), rec("d"))
	for after := range 3 {
		for _, done := range []bool{false, true} {
			d := disk.New(1000)
			for i, name := range names {
				put(d, name, bytes[i])
			}
			d.Arm(after, done)
			w, got, err := Open(d, 10)
			if w != nil || got != nil || err != api.ErrIO {
				t.Errorf("after %d: %v, %v, %d", after, w, got, err)
			}
			if s, _ := d.Read(Name(2)); (s == bytes[1]) != (after == 0 || after == 1 && !done) {
				t.Errorf("after %d, done %v: %q", after, done, s)
			}
			opened(t, "again", d, 10, l...)
			d.Crash()
			opened(t, "behind a crash", d, 10, l...)
		}
	}
	d := disk.New(1000)
	for i, name := range names {
		put(d, name, bytes[i])
	}
	d.Arm(3, false)
	opened(t, "three calls", d, 10, l...)
	if works, _ := d.Try(); works {
		t.Error("not three calls")
	}
}

// P11.1: a disk without a segment isn't called.
func TestOpenCallsNothing(t *testing.T) {
	d := disk.New(10)
	d.Arm(0, true)
	opened(t, "empty", d, 10)
	if works, _ := d.Try(); works {
		t.Error("the fuse was tried")
	}
}

// P11.2: at the last number what is answered with OK is kept, too; what is refused changes nothing.
func TestLastNumber(t *testing.T) {
	d := disk.New(1000)
	put(d, Name(1<<40-1), spelled(rec("a")))
	put(d, Name(1<<40), spelled(rec("b")))
	l := []frame.Rec{rec("a"), rec("b")}
	w := opened(t, "Open", d, 1, l...)
	if w.Segment() != 1<<40 {
		t.Errorf("segment %d", w.Segment())
	}
	was := files(d)
	if err := w.Append(rec("c")); err == api.OK {
		l = append(l, rec("c"))
	} else {
		holds(t, "Append", d, was...)
	}
	w = opened(t, "Append", d, 1, l...)
	was = files(d)
	if err := w.Restart(rec("d")); err == api.OK {
		l = []frame.Rec{rec("d")}
	} else {
		holds(t, "Restart", d, was...)
	}
	d.Crash()
	opened(t, "Restart", d, 1, l...)
}

// P1, P11.1: of any bytes in two segments Open answers what frame.All says of each, and leaves that alone.
func TestOpenAnyBytes(t *testing.T) {
	r := rolls(3)
	for range 3000 {
		d := disk.New(1000)
		var l []frame.Rec
		var left []string
		for seg := 1; seg <= 2; seg++ {
			b := []byte(spelled(recs("a", "b", "c")[:r.below(4)]...))
			for range r.below(3) {
				b = append(b, byte(r.below(256)))
			}
			if len(b) > 0 && r.below(2) == 0 {
				b[r.below(len(b))] = byte(r.below(256))
			}
			d.Append(Name(seg), string(b))
			more, n := frame.All(string(b))
			for _, x := range more {
				l = append(l, x)
				if x.Kind == Reset {
					l = nil
				}
			}
			left = append(left, Name(seg), string(b[:n]))
		}
		opened(t, "any bytes", d, 10, l...)
		d.Crash()
		holds(t, "any bytes", d, left...)
	}
}

package wal

import (
	"slices"
	"strings"
	"testing"

	"barograph/api"
	"barograph/disk"
	"barograph/frame"
)

// segmented: a log with three segments of one record each, limit 1.
func segmented(t *testing.T, room int) (*disk.Disk, *Log) {
	t.Helper()
	d := disk.New(room)
	w := opened(t, "new", d, 1)
	for _, s := range []string{"a", "b", "c"} {
		want(t, "Append", w.Append(rec(s)), api.OK)
	}
	return d, w
}

// three: the records of such a log.
func three() []frame.Rec {
	return []frame.Rec{rec("a"), rec("b"), rec("c")}
}

// P11.1: a restarted log has a reset and just these records, in the next number; all elder segments are gone.
func TestRestart(t *testing.T) {
	for _, l := range [][]frame.Rec{nil, {}, recs(""), recs("new", "er", "est")} {
		d, w := segmented(t, 1000)
		put(d, "other", "o")
		want(t, "Restart", w.Restart(l...), api.OK)
		if w.Segment() != 4 || w.Broken() {
			t.Errorf("segment %d, broken %v", w.Segment(), w.Broken())
		}
		holds(t, "Restart", d, "other", "o", Name(4), reset()+spelled(l...))
		d.Crash()
		opened(t, "behind a crash", d, 1, l...)
		want(t, "Append", w.Append(rec("more")), api.OK)
		if w.Segment() != 5 {
			t.Errorf("one more: segment %d", w.Segment())
		}
		opened(t, "one more", d, 1, append(slices.Clone(l), rec("more"))...)
		want(t, "again", w.Restart(rec("again")), api.OK)
		holds(t, "again", d, "other", "o", Name(6), reset()+spelled(rec("again")))
	}
}

// P11.1: the log of an empty disk may be restarted; its next number is 2.
func TestRestartEmpty(t *testing.T) {
	d := disk.New(100)
	w := opened(t, "new", d, 100)
	want(t, "Restart", w.Restart(rec("a")), api.OK)
	holds(t, "Restart", d, Name(2), reset()+spelled(rec("a")))
	want(t, "Append", w.Append(rec("b")), api.OK)
	holds(t, "Append", d, Name(2), reset()+spelled(rec("a"), rec("b")))
	opened(t, "both", d, 100, rec("a"), rec("b"))
}

// P11.1: the reset's bytes are of the segment's, too, where the next number is to be written.
func TestRestartLimit(t *testing.T) {
	one := len(spelled(rec("x")))
	for limit, seg := range map[int]int{len(reset()) + 2*one: 2, len(reset()) + 2*one - 1: 3} {
		d := disk.New(1000)
		w := opened(t, "new", d, limit)
		want(t, "Restart", w.Restart(rec("x")), api.OK)
		want(t, "Append", w.Append(rec("x")), api.OK)
		if w.Segment() != seg {
			t.Errorf("limit %d: segment %d, not %d", limit, w.Segment(), seg)
		}
	}
}

// P11.3: a restart for which there are a byte too few changes nothing, and the log isn't broken; with as many as it has it goes.
func TestRestartFull(t *testing.T) {
	l := recs("new", "")
	need := len(reset() + spelled(l...))
	for _, unfinished := range []string{"", "left"} {
		d, w := segmented(t, 3*len(spelled(rec("a")))+len(unfinished)+need-1)
		if unfinished != "" {
			put(d, "tmp-wal", unfinished)
		}
		was := files(d)
		d.Arm(0, true)
		want(t, "a byte too few", w.Restart(l...), api.ErrFull)
		d.Clear()
		holds(t, "full", d, was...)
		if w.Broken() || w.Segment() != 3 {
			t.Errorf("full: broken %v, segment %d", w.Broken(), w.Segment())
		}
		opened(t, "full", d, 1, three()...)
		want(t, "Append", w.Append(rec("d")), api.OK)
		opened(t, "Append", d, 1, append(three(), rec("d"))...)
	}
	d, w := segmented(t, 3*len(spelled(rec("a")))+need)
	want(t, "all that is free", w.Restart(l...), api.OK)
	holds(t, "all that is free", d, Name(4), reset()+spelled(l...))
	w = opened(t, "no room", disk.New(len(reset())-1), 1)
	want(t, "no room", w.Restart(), api.ErrFull)
	w = opened(t, "just room", disk.New(len(reset())), 1)
	want(t, "just room", w.Restart(), api.OK)
}

// P11.2: whichever of its calls fails, and whatever a crash takes then: none of it, or all; the log is broken.
func TestRestartFails(t *testing.T) {
	elder := []string{spelled(rec("a")), spelled(rec("b")), spelled(rec("c"))}
	fresh := reset() + spelled(recs("new", "er")...)
	for after := range 6 {
		for _, done := range []bool{false, true} {
			for _, crash := range []int{-1, 0, 1, len(fresh) - 1, len(fresh)} {
				d, w := segmented(t, 1000)
				d.Arm(after, done)
				want(t, "Restart", w.Restart(recs("new", "er")...), api.ErrIO)
				renamed := after > 2 || after == 2 && done
				if seg := w.Segment(); after > 2 && seg != 4 || after < 2 && seg != 3 {
					t.Errorf("after %d: segment %d", after, seg)
				}
				if renamed {
					// The elder ones are removed by rising numbers.
					gone := max(after-3, 0)
					if after >= 3 && done {
						gone++
					}
					var wanted []string
					for i := gone; i < 3; i++ {
						wanted = append(wanted, Name(i+1), elder[i])
					}
					holds(t, "renamed", d, append(wanted, Name(4), fresh)...)
				}
				if crash >= 0 {
					d.Crash(crash)
				} else {
					broken(t, "Restart", d, w)
				}
				l := three()
				if renamed {
					l = recs("new", "er")
				}
				w = opened(t, "none or all", d, 1, l...)
				want(t, "Append", w.Append(rec("more")), api.OK)
				opened(t, "more", d, 1, append(l, rec("more"))...)
				// What was left behind goes with the next restart.
				want(t, "again", w.Restart(rec("again")), api.OK)
				holds(t, "again", d, Name(w.Segment()), reset()+spelled(rec("again")))
			}
		}
	}
	d, w := segmented(t, 1000)
	d.Arm(6, false)
	want(t, "six calls", w.Restart(rec("new")), api.OK)
	if works, _ := d.Try(); works {
		t.Error("not six calls")
	}
}

// P11.1: an unfinished file that there is is removed, by one call more.
func TestRestartUnfinished(t *testing.T) {
	d, w := segmented(t, 1000)
	d.Append("tmp-wal", strings.Repeat("left", 9))
	d.Arm(7, false)
	want(t, "Restart", w.Restart(rec("new")), api.OK)
	if works, _ := d.Try(); works {
		t.Error("not seven calls")
	}
	holds(t, "Restart", d, Name(4), reset()+spelled(rec("new")))
}

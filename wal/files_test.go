package wal

import (
	"strings"
	"testing"

	"barograph/api"
	"barograph/disk"
)

// P11.1: a fresh file has just its bytes, for sure, whatever had its name ahead; no other file changes.
func TestFresh(t *testing.T) {
	for _, s := range []string{"", "x", "\x00\xff", strings.Repeat("s", 300)} {
		for _, stale := range []bool{false, true} {
			for _, elder := range []bool{false, true} {
				d := disk.New(1000)
				put(d, "other", "o")
				if stale {
					d.Append("tmp-wal", "left behind")
				}
				if elder {
					put(d, "name", "elder")
				}
				want(t, "Fresh", Fresh(d, "name", s), api.OK)
				d.Crash()
				holds(t, "Fresh", d, "name", s, "other", "o")
			}
		}
	}
}

// P11.1: its calls: the unfinished file is removed, if there is one, written, synced, renamed; the first that fails is the last.
func TestFreshFails(t *testing.T) {
	const elder, s, left = "elder", "fresh", "left behind"
	for _, c := range []struct {
		stale  bool
		after  int
		done   bool
		wanted []string
		torn   []string // behind a crash that takes all that isn't there for sure
	}{
		{false, 0, false, []string{"name", elder}, []string{"name", elder}},
		{false, 0, true, []string{"name", elder, "tmp-wal", s}, []string{"name", elder, "tmp-wal", ""}},
		{false, 1, false, []string{"name", elder, "tmp-wal", s}, []string{"name", elder, "tmp-wal", ""}},
		{false, 1, true, []string{"name", elder, "tmp-wal", s}, []string{"name", elder, "tmp-wal", s}},
		{false, 2, false, []string{"name", elder, "tmp-wal", s}, []string{"name", elder, "tmp-wal", s}},
		{false, 2, true, []string{"name", s}, []string{"name", s}},
		{true, 0, false, []string{"name", elder, "tmp-wal", left}, []string{"name", elder, "tmp-wal", left}},
		{true, 0, true, []string{"name", elder}, []string{"name", elder}},
		{true, 1, false, []string{"name", elder}, []string{"name", elder}},
		{true, 1, true, []string{"name", elder, "tmp-wal", s}, []string{"name", elder, "tmp-wal", ""}},
		{true, 2, false, []string{"name", elder, "tmp-wal", s}, []string{"name", elder, "tmp-wal", ""}},
		{true, 2, true, []string{"name", elder, "tmp-wal", s}, []string{"name", elder, "tmp-wal", s}},
		{true, 3, false, []string{"name", elder, "tmp-wal", s}, []string{"name", elder, "tmp-wal", s}},
		{true, 3, true, []string{"name", s}, []string{"name", s}},
	} {
		d := disk.New(1000)
		put(d, "name", elder)
		if c.stale {
			put(d, "tmp-wal", left)
		}
		d.Arm(c.after, c.done)
		want(t, "Fresh", Fresh(d, "name", s), api.ErrIO)
		holds(t, "Fresh", d, c.wanted...)
		d.Crash()
		holds(t, "behind a crash", d, c.torn...)
		want(t, "again", Fresh(d, "name", "again"), api.OK)
		d.Crash()
		holds(t, "again", d, "name", "again")
	}
}

// P11.1: it tries no more calls than these.
func TestFreshCalls(t *testing.T) {
	for _, stale := range []bool{false, true} {
		d := disk.New(1000)
		calls := 3
		if stale {
			put(d, "tmp-wal", "left behind")
			calls = 4
		}
		d.Arm(calls, false)
		want(t, "Fresh", Fresh(d, "name", "s"), api.OK)
		if works, _ := d.Try(); works {
			t.Errorf("stale %v: not %d calls", stale, calls)
		}
	}
}

// P11.1: the disk's own error of a name that may not be; no file has it then.
func TestFreshNames(t *testing.T) {
	for _, name := range []string{"", strings.Repeat("n", api.MaxName+1)} {
		d := disk.New(1000)
		put(d, "other", "o")
		want(t, "Fresh", Fresh(d, name, "s"), api.ErrArg)
		if l := d.List(""); l[0] != "other" || len(l) > 1 && l[1] != "tmp-wal" || len(l) > 2 {
			t.Errorf("%q: %q", name, l)
		}
	}
	d := disk.New(1000)
	long := strings.Repeat("n", api.MaxName)
	want(t, "40 bytes", Fresh(d, long, "s"), api.OK)
	holds(t, "40 bytes", d, long, "s")
}

// P11.3: a fresh file for which there is no room changes nothing; the unfinished one's room counts, the elder one's doesn't.
func TestFreshFull(t *testing.T) {
	d := disk.New(10)
	put(d, "name", "elder")
	want(t, "a byte too few", Fresh(d, "name", "123456"), api.ErrFull)
	holds(t, "a byte too few", d, "name", "elder")
	want(t, "all that is free", Fresh(d, "name", "12345"), api.OK)
	holds(t, "all that is free", d, "name", "12345")
	put(d, "tmp-wal", "123")
	want(t, "a byte too few, with an unfinished one", Fresh(d, "name", "654321"), api.ErrFull)
	holds(t, "a byte too few, with an unfinished one", d, "name", "12345", "tmp-wal", "123")
	want(t, "all, with an unfinished one", Fresh(d, "name", "54321"), api.OK)
	holds(t, "all, with an unfinished one", d, "name", "54321")
}

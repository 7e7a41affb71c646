package wal

import (
	"slices"
	"strings"
	"testing"

	"barograph/api"
	"barograph/disk"
	"barograph/frame"
)

// rolls: numbers that follow from where they begin, and from nothing else.
type rolls uint64

func (r *rolls) below(n int) int {
	*r = *r*6364136223846793005 + 1442695040888963407
	return int(uint64(*r)>>33) % n
}

// trial: a log, and which records Open may answer next: several lists, where a call answered ErrIO.
type trial struct {
	rolls
	disk  *disk.Disk
	limit int
	log   *Log
	may   [][]frame.Rec
	tried int // how many records there have been: no two are the same
	told  []string
}

func newTrial(seed, room int) *trial {
	c := &trial{rolls: rolls(seed), disk: disk.New(room), may: [][]frame.Rec{nil}}
	c.limit = []int{1, 20, 60, 1000}[c.below(4)]
	return c
}

// cast: some records.
func (c *trial) cast() []frame.Rec {
	var l []frame.Rec
	for range c.below(5) {
		c.tried++
		data := string(rune('a'+c.tried%26)) + strings.Repeat("x", c.tried/26%9)
		l = append(l, frame.Rec{Kind: byte(c.tried % 255), Data: data})
	}
	return l
}

// arm: perhaps a call of the disk fails soon.
func (c *trial) arm() {
	if c.below(3) == 0 {
		c.disk.Arm(c.below(8), c.below(2) == 0)
	}
}

// open: one of the lists that may be; from then on it is that one.
func (c *trial) open(t *testing.T) {
	t.Helper()
	w, l, err := Open(c.disk, c.limit)
	c.log = nil
	if err == api.ErrIO && w == nil && l == nil {
		return
	}
	i := slices.IndexFunc(c.may, func(x []frame.Rec) bool { return slices.Equal(x, l) })
	if err != api.OK || i < 0 {
		t.Fatalf("Open: %v, %d; may be: %v", l, err, c.may)
	}
	c.log, c.may = w, [][]frame.Rec{slices.Clone(l)}
}

// append: records more.
func (c *trial) append(t *testing.T) {
	t.Helper()
	l := c.cast()
	room := len(spelled(l...)) <= c.disk.Free()
	was, seg, isBroken := files(c.disk), c.log.Segment(), c.log.Broken()
	err := c.log.Append(l...)
	c.note(err)
	switch {
	case isBroken:
		want(t, "Append, broken", err, api.ErrDown)
	case !room:
		want(t, "Append, no room", err, api.ErrFull)
	case err == api.OK:
		c.may = [][]frame.Rec{append(slices.Clip(c.may[0]), l...)}
	default:
		want(t, "Append", err, api.ErrIO)
		for n := range l {
			c.may = append(c.may, append(slices.Clip(c.may[0]), l[:n+1]...))
		}
	}
	c.unchanged(t, "Append", err, was, seg)
}

// restart: these records alone.
func (c *trial) restart(t *testing.T) {
	t.Helper()
	l := c.cast()
	room := len(reset()+spelled(l...)) <= c.disk.Free()
	was, seg, isBroken := files(c.disk), c.log.Segment(), c.log.Broken()
	err := c.log.Restart(l...)
	c.note(err)
	switch {
	case isBroken:
		want(t, "Restart, broken", err, api.ErrDown)
	case !room:
		want(t, "Restart, no room", err, api.ErrFull)
	case err == api.OK:
		c.may = [][]frame.Rec{l}
	default:
		want(t, "Restart", err, api.ErrIO)
		c.may = append(c.may, l)
	}
	c.unchanged(t, "Restart", err, was, seg)
}

// unchanged: where a log is down or a disk full nothing is done; a log is broken where a call answered ErrIO.
func (c *trial) unchanged(t *testing.T, what string, err api.Errno, was []string, seg int) {
	t.Helper()
	if err == api.ErrDown || err == api.ErrFull {
		holds(t, what, c.disk, was...)
		if c.log.Segment() != seg {
			t.Errorf("%s: segment %d, not %d", what, c.log.Segment(), seg)
		}
	}
	if c.log.Broken() != (err == api.ErrIO || err == api.ErrDown) {
		t.Errorf("%s: %d, broken %v", what, err, c.log.Broken())
	}
}

// note: what a call answered, and what there is behind it.
func (c *trial) note(err api.Errno) {
	c.told = append(append(c.told, string(rune('A'+err))), files(c.disk)...)
}

// step: one of all.
func (c *trial) step(t *testing.T) {
	t.Helper()
	switch n := c.below(12); {
	case c.log == nil || n == 0:
		c.arm()
		c.open(t)
	case n == 1:
		c.disk.Crash(c.below(40), c.below(40))
		c.log = nil
	case n == 2:
		c.arm()
		c.restart(t)
	case n == 3 && c.log.Broken():
		c.log = nil
	default:
		c.arm()
		c.append(t)
	}
}

// P11.1, P11.2, P11.3: behind any calls, failures and crashes Open answers what was appended, and of what answered ErrIO as much as may be.
func TestKept(t *testing.T) {
	for seed := range 400 {
		c := newTrial(seed, []int{100, 300, 100000}[seed%3])
		for i := range 300 {
			c.step(t)
			if t.Failed() {
				t.Fatalf("seed %d, step %d", seed, i)
			}
		}
		c.disk.Crash()
		c.open(t)
	}
}

// K4: the same calls are answered in the same way.
func TestSameAgain(t *testing.T) {
	var first []string
	for range 5 {
		c := newTrial(11, 1000)
		for range 200 {
			c.step(t)
		}
		if first == nil {
			first = c.told
		}
		if !slices.Equal(first, c.told) {
			t.Fatal("another answer")
		}
	}
}

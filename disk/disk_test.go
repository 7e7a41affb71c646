package disk

import (
	"math"
	"slices"
	"strings"
	"testing"

	"barograph/api"
)

// want: did a call end so?
func want(t *testing.T, what string, got, wanted api.Errno) {
	t.Helper()
	if got != wanted {
		t.Errorf("%s: %d, not %d", what, got, wanted)
	}
}

// holds: does a disk have these files, no others? Names and bytes come in turn, names rising.
func holds(t *testing.T, what string, d *Disk, files ...string) {
	t.Helper()
	var names []string
	used := 0
	for i := 0; i < len(files); i += 2 {
		names = append(names, files[i])
		used += len(files[i+1])
		if s, err := d.Read(files[i]); s != files[i+1] || err != api.OK {
			t.Errorf("%s: Read %s: %q, %d, not %q", what, files[i], s, err, files[i+1])
		}
	}
	if l := d.List(""); !slices.Equal(l, names) {
		t.Errorf("%s: List: %q, not %q", what, l, names)
	}
	if d.Used() != used {
		t.Errorf("%s: Used: %d, not %d", what, d.Used(), used)
	}
}

// P4.1: the chapter's example.
func TestExample(t *testing.T) {
	d := New(100)
	want(t, "Append", d.Append("a", "xy"), api.OK)
	want(t, "Sync", d.Sync("a"), api.OK)
	want(t, "Append", d.Append("a", "z1"), api.OK)
	d.Crash(1)
	holds(t, "Crash", d, "a", "xyz")
	want(t, "Arm", d.Arm(0, true), api.OK)
	want(t, "Append", d.Append("a", "q"), api.ErrIO)
	holds(t, "done", d, "a", "xyzq")
}

// P4.1: a new disk has its room, or none, and no files.
func TestNew(t *testing.T) {
	for _, c := range []struct{ room, free int }{{0, 0}, {1, 1}, {1 << 20, 1 << 20}, {-1, 0}, {math.MinInt, 0}, {math.MaxInt, math.MaxInt}} {
		d := New(c.room)
		holds(t, "New", d)
		if d.Free() != c.free {
			t.Errorf("New %d: %d free", c.room, d.Free())
		}
		want(t, "nothing", d.Append("a", ""), api.OK)
		if c.free == 0 {
			want(t, "a byte", d.Append("a", "x"), api.ErrFull)
		} else {
			want(t, "a byte", d.Append("a", "x"), api.OK)
		}
	}
}

// P4.1: bytes go behind the file's, a new file is made, an empty one too.
func TestAppend(t *testing.T) {
	d := New(10)
	want(t, "new", d.Append("b", "xy"), api.OK)
	want(t, "empty", d.Append("a", ""), api.OK)
	holds(t, "two", d, "a", "", "b", "xy")
	want(t, "behind", d.Append("b", "\x00\xff"), api.OK)
	want(t, "nothing behind", d.Append("b", ""), api.OK)
	holds(t, "more", d, "a", "", "b", "xy\x00\xff")
	if d.Free() != 6 {
		t.Errorf("Free: %d", d.Free())
	}
}

// P4.1, K2: a name of 1 to 40 bytes may be; its error comes ahead of that of the room.
func TestAppendNames(t *testing.T) {
	d := New(2)
	long := strings.Repeat("n", api.MaxName)
	want(t, "none", d.Append("", "x"), api.ErrArg)
	want(t, "41", d.Append(long+"n", "x"), api.ErrArg)
	want(t, "none, full", d.Append("", "xyz"), api.ErrArg)
	want(t, "41, full", d.Append(long+"n", "xyz"), api.ErrArg)
	// Bytes count, not runes.
	want(t, "41 in runes", d.Append(strings.Repeat("é", 20)+"x", "x"), api.ErrArg)
	holds(t, "none taken", d)
	want(t, "40", d.Append(long, "x"), api.OK)
	want(t, "1", d.Append("\x00", "y"), api.OK)
	holds(t, "edges", d, "\x00", "y", long, "x")
}

// P4.1, P4.3: what has more bytes than are free isn't taken, not even a part of it.
func TestAppendFull(t *testing.T) {
	d := New(4)
	want(t, "more than all", d.Append("a", "12345"), api.ErrFull)
	holds(t, "no file", d)
	want(t, "all", d.Append("a", "1234"), api.OK)
	want(t, "one more", d.Append("a", "5"), api.ErrFull)
	want(t, "one more, another", d.Append("b", "5"), api.ErrFull)
	holds(t, "full", d, "a", "1234")
	want(t, "room", d.Truncate("a", 3), api.OK)
	want(t, "two more", d.Append("b", "56"), api.ErrFull)
	want(t, "one more", d.Append("b", "5"), api.OK)
	want(t, "empty", d.Append("c", ""), api.OK)
	holds(t, "full again", d, "a", "123", "b", "5", "c", "")
}

// P4.1, K2: each call's own errors, in their order; none changes a thing.
func TestErrors(t *testing.T) {
	d := New(9)
	d.Append("a", "xyz")
	long := strings.Repeat("n", api.MaxName+1)
	want(t, "Sync none", d.Sync("b"), api.ErrNone)
	want(t, "Sync no name", d.Sync(""), api.ErrNone)
	want(t, "Truncate none", d.Truncate("b", 0), api.ErrNone)
	want(t, "Truncate none, no size", d.Truncate("b", -1), api.ErrNone)
	want(t, "Truncate below 0", d.Truncate("a", -1), api.ErrArg)
	want(t, "Truncate far below 0", d.Truncate("a", math.MinInt), api.ErrArg)
	want(t, "Truncate above", d.Truncate("a", 4), api.ErrArg)
	want(t, "Truncate far above", d.Truncate("a", math.MaxInt), api.ErrArg)
	want(t, "Rename none", d.Rename("b", "c"), api.ErrNone)
	want(t, "Rename none, no name", d.Rename("b", ""), api.ErrNone)
	want(t, "Rename none to itself", d.Rename("b", "b"), api.ErrNone)
	want(t, "Rename no name", d.Rename("a", ""), api.ErrArg)
	want(t, "Rename long", d.Rename("a", long), api.ErrArg)
	want(t, "Remove none", d.Remove("b"), api.ErrNone)
	want(t, "Remove no name", d.Remove(""), api.ErrNone)
	for _, name := range []string{"b", "", "A", "a\x00", long} {
		if s, err := d.Read(name); s != "" || err != api.ErrNone {
			t.Errorf("Read %q: %q, %d", name, s, err)
		}
	}
	holds(t, "all as it was", d, "a", "xyz")
}

// P4.1: a file cut to its first bytes; these are there for sure.
func TestTruncate(t *testing.T) {
	for n := range 6 {
		d := New(9)
		d.Append("a", "01")
		d.Sync("a")
		d.Append("a", "234")
		want(t, "Truncate", d.Truncate("a", n), api.OK)
		holds(t, "Truncate", d, "a", "01234"[:n])
		d.Append("a", "56")
		holds(t, "behind", d, "a", "01234"[:n]+"56")
		d.Crash(1)
		holds(t, "Crash", d, "a", "01234"[:n]+"5")
	}
}

// P4.1: a file takes its name, and what of it was there for sure, from another; that one's bytes are free.
func TestRename(t *testing.T) {
	d := New(9)
	d.Append("a", "01")
	d.Sync("a")
	d.Append("a", "23")
	d.Append("b", "4567")
	d.Sync("b")
	want(t, "Rename", d.Rename("a", "b"), api.OK)
	holds(t, "over another", d, "b", "0123")
	want(t, "Rename", d.Rename("b", "c"), api.OK)
	holds(t, "to a new name", d, "c", "0123")
	want(t, "Rename", d.Rename("c", "c"), api.OK)
	holds(t, "to itself", d, "c", "0123")
	want(t, "Rename", d.Rename("c", strings.Repeat("n", api.MaxName)), api.OK)
	d.Crash(1)
	holds(t, "Crash", d, strings.Repeat("n", api.MaxName), "012")
	want(t, "the old name", d.Append("a", "x"), api.OK)
	d.Crash()
	holds(t, "a new file of the old name", d, "a", "", strings.Repeat("n", api.MaxName), "012")
}

// P4.1: a file is gone, its bytes are free; another one of its name has nothing of it.
func TestRemove(t *testing.T) {
	d := New(4)
	d.Append("a", "0123")
	d.Sync("a")
	want(t, "Remove", d.Remove("a"), api.OK)
	holds(t, "gone", d)
	want(t, "again", d.Remove("a"), api.ErrNone)
	want(t, "Append", d.Append("a", "4567"), api.OK)
	d.Crash(2)
	holds(t, "another", d, "a", "45")
}

// P4.1, K4: names that begin so, rising byte by byte.
func TestList(t *testing.T) {
	d := New(0)
	for _, name := range []string{"b", "a/2", "\xff", "a", "a/10", "é", "A", "a/1", "ba", "\x00"} {
		d.Append(name, "")
	}
	for _, c := range []struct {
		prefix string
		want   []string
	}{
		{"", []string{"\x00", "A", "a", "a/1", "a/10", "a/2", "b", "ba", "é", "\xff"}},
		{"a", []string{"a", "a/1", "a/10", "a/2"}},
		{"a/1", []string{"a/1", "a/10"}},
		{"a/10", []string{"a/10"}},
		{"a/100", nil},
		{"c", nil},
		{"\xc3", []string{"é"}},
		{strings.Repeat("a", 50), nil},
	} {
		if l := d.List(c.prefix); !slices.Equal(l, c.want) {
			t.Errorf("List %q: %q, not %q", c.prefix, l, c.want)
		}
	}
}

// K3: what was answered stays, and what is done to it changes no disk.
func TestAnswersStay(t *testing.T) {
	d := New(20)
	d.Append("a", "01234")
	d.Append("b", "")
	s, _ := d.Read("a")
	l := d.List("")
	d.Truncate("a", 0)
	d.Append("a", "56789")
	d.Remove("b")
	if s != "01234" || !slices.Equal(l, []string{"a", "b"}) {
		t.Errorf("%q, %q", s, l)
	}
	l[0] = "z"
	holds(t, "the list was changed", d, "a", "56789")
	choice := []int{3, 1}
	d.Crash(choice...)
	if !slices.Equal(choice, []int{3, 1}) {
		t.Errorf("Crash changed its choices: %v", choice)
	}
}

// P4.1: which calls try the fuse: those that change files and have no error of their own.
func TestWhatTries(t *testing.T) {
	for _, done := range []bool{false, true} {
		for what, c := range map[string]struct {
			act    func(d *Disk) api.Errno
			after  []string
			tornTo string // what a crash leaves of the first file, if the call was done
		}{
			"Append":   {func(d *Disk) api.Errno { return d.Append("a", "z") }, []string{"a", "xyz", "b", "1"}, "x"},
			"new":      {func(d *Disk) api.Errno { return d.Append("c", "") }, []string{"a", "xy", "b", "1", "c", ""}, "x"},
			"Sync":     {func(d *Disk) api.Errno { return d.Sync("a") }, []string{"a", "xy", "b", "1"}, "xy"},
			"Truncate": {func(d *Disk) api.Errno { return d.Truncate("a", 2) }, []string{"a", "xy", "b", "1"}, "xy"},
			"Rename":   {func(d *Disk) api.Errno { return d.Rename("a", "b") }, []string{"b", "xy"}, "x"},
			"Remove":   {func(d *Disk) api.Errno { return d.Remove("b") }, []string{"a", "xy"}, "x"},
		} {
			d := New(9)
			d.Append("a", "x")
			d.Sync("a")
			d.Append("a", "y")
			d.Append("b", "1")
			d.Sync("b")
			d.Arm(0, done)
			want(t, what, c.act(d), api.ErrIO)
			if !done {
				holds(t, what+", not done", d, "a", "xy", "b", "1")
				d.Crash()
				holds(t, what+", not done, Crash", d, "a", "x", "b", "1")
				continue
			}
			holds(t, what+", done", d, c.after...)
			d.Crash()
			c.after[1] = c.tornTo
			holds(t, what+", done, Crash", d, c.after...)
		}
	}
}

// P4.1: a call with an error of its own, or that only asks, leaves the fuse as it is.
func TestWhatDoesNotTry(t *testing.T) {
	d := New(4)
	d.Append("a", "xy")
	d.Arm(1, true)
	d.Append("", "x")
	d.Append("a", "xyz")
	d.Sync("b")
	d.Truncate("b", 0)
	d.Truncate("a", 3)
	d.Rename("b", "c")
	d.Rename("a", "")
	d.Remove("b")
	d.Read("a")
	d.Read("b")
	d.List("")
	d.Used()
	d.Free()
	want(t, "the first one works", d.Sync("a"), api.OK)
	d.Sync("b")
	want(t, "the next one fails", d.Sync("a"), api.ErrIO)
	want(t, "and no more", d.Sync("a"), api.OK)
}

// P4.1: the fuse's methods are the disk's; two disks have two fuses.
func TestFuseOfDisk(t *testing.T) {
	d, other := New(9), New(9)
	fill(t, d.Fuse, 0)
	want(t, "full", d.Arm(0, false), api.ErrFull)
	want(t, "the other's", other.Append("a", "x"), api.OK)
	want(t, "the disk's", d.Append("a", "x"), api.ErrIO)
	if works, done := d.Try(); works || done {
		t.Errorf("Try: %v, %v", works, done)
	}
	want(t, "Do", d.Do(func() api.Errno { return d.Append("b", "y") }), api.ErrIO)
	holds(t, "Do", d, "a", "x")
	d.Clear()
	want(t, "Clear", d.Append("b", "y"), api.OK)
	holds(t, "Clear", d, "a", "x", "b", "y")
}

// P4.1: the choices are of the files with bytes that aren't there for sure, by rising names.
func TestCrash(t *testing.T) {
	for _, c := range []struct {
		choice  []int
		a, b, d string
	}{
		{nil, "01", "", "9"},
		{[]int{}, "01", "", "9"},
		{[]int{0, 0, 0}, "01", "", "9"},
		{[]int{1}, "012", "", "9"},
		{[]int{2, 1, 1}, "0123", "4", "9x"},
		{[]int{3, 2, 2}, "01234", "45", "9"},
		{[]int{4, 3, 3}, "01", "", "9x"},
		{[]int{0, 2, 1, 7, 7}, "01", "45", "9x"},
		{[]int{-1, -1, -1}, "01234", "45", "9x"},
		{[]int{-4, -3, -2}, "01", "", "9"},
		{[]int{-5, -4}, "01234", "45", "9"},
		{[]int{math.MaxInt, math.MaxInt, math.MaxInt}, "01234", "4", "9x"},
		{[]int{math.MinInt, math.MinInt, math.MinInt}, "01", "4", "9"},
	} {
		d := New(100)
		d.Append("d", "9")
		d.Sync("d")
		d.Append("d", "x")
		d.Append("b", "45")
		d.Append("c", "678")
		d.Sync("c")
		d.Append("a", "01")
		d.Sync("a")
		d.Append("a", "234")
		d.Append("aa", "")
		d.Crash(c.choice...)
		after := []string{"a", c.a, "aa", "", "b", c.b, "c", "678", "d", c.d}
		holds(t, "Crash", d, after...)
		d.Crash(0, 0, 0, 0)
		holds(t, "all is there for sure", d, after...)
	}
}

// P4.1: behind a crash no fault waits, and none is armed.
func TestCrashClears(t *testing.T) {
	d := New(9)
	d.Arm(1, true)
	d.Arm(0, false)
	d.Append("a", "x")
	d.Crash()
	for range 3 {
		want(t, "Append", d.Append("a", "x"), api.OK)
	}
	fill(t, d.Fuse, 0)
}

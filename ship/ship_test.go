package ship

import (
	"math"
	"slices"
	"strings"
	"testing"

	"barograph/api"
	"barograph/block"
	"barograph/disk"
	"barograph/frame"
	"barograph/ident"
	"barograph/label"
	"barograph/leb"
	"barograph/merge"
	"barograph/meta"
)

// want: did a call end so?
func want(t *testing.T, what string, got, wanted api.Errno) {
	t.Helper()
	if got != wanted {
		t.Errorf("%s: %d, not %d", what, got, wanted)
	}
}

// put: a file has these bytes, for sure.
func put(d *disk.Disk, name, s string) {
	d.Append(name, s)
	d.Sync(name)
}

// files: the names and the bytes of a disk's files, in turn.
func files(d *disk.Disk) []string {
	var l []string
	for _, name := range d.List("") {
		s, _ := d.Read(name)
		l = append(l, name, s)
	}
	return l
}

// holds: does a disk have these files, no others? Names and bytes come in turn, names rising.
func holds(t *testing.T, what string, d *disk.Disk, wanted ...string) {
	t.Helper()
	if l := files(d); !slices.Equal(l, wanted) {
		t.Errorf("%s: %q, not %q", what, l, wanted)
	}
}

// untried: has the fuse, of which the next call fails, not been tried? It is done then.
func untried(t *testing.T, what string, f *disk.Fuse) {
	t.Helper()
	if works, _ := f.Try(); works {
		t.Errorf("%s: the fuse was tried", what)
	}
}

// record: the bytes of a record.
func record(kind byte, data string) string {
	return string(frame.Append(nil, frame.Rec{Kind: kind, Data: data}))
}

// number: a number's bytes.
func number(v uint64) string {
	return string(leb.Uint(nil, v))
}

// id: the name of the n-th block, of a tick.
func id(tick, n int) string {
	s, _ := ident.Make(tick, n)
	return s
}

// built: a block of that name, whose samples hang on a number.
func built(t *testing.T, id string, n int, sources ...string) block.Files {
	t.Helper()
	set, _ := label.Parse("a=1")
	row := merge.Row{Labels: set}
	for i := range n%7 + 1 {
		row.Samples = append(row.Samples, api.Sample{T: int64(10 * i), V: uint64(n)})
	}
	f, err := block.Build(id, 0, 100, 1, sources, []merge.Row{row})
	if err != api.OK {
		t.Fatalf("Build: %d", err)
	}
	return f
}

// size: how many bytes a block has, with its meta.
func size(f block.Files) int {
	return len(f.Chunks) + len(f.Index) + len(meta.Encode(f.Meta))
}

// same: are two blocks the same?
func same(a, b block.Files) bool {
	return sameMeta(a.Meta, b.Meta) && a.Chunks == b.Chunks && a.Index == b.Index
}

// sameMeta: do two metas say the same?
func sameMeta(x, y meta.Meta) bool {
	return x.ID == y.ID && x.Min == y.Min && x.Max == y.Max && x.Level == y.Level && x.Series == y.Series && x.Samples == y.Samples &&
		slices.Equal(x.Files, y.Files) && slices.Equal(x.Sources, y.Sources)
}

// lay: a local block's files are there, for sure, under any text.
func lay(d *disk.Disk, id string, f block.Files) {
	put(d, "blk-"+id+"-chunks", f.Chunks)
	put(d, "blk-"+id+"-index", f.Index)
	put(d, "blk-"+id+"-meta", meta.Encode(f.Meta))
}

// next: does Next answer this?
func next(t *testing.T, what string, d *disk.Disk, tick int, wanted string, wantedErr api.Errno) {
	t.Helper()
	if got, err := Next(d, tick); got != wanted || err != wantedErr {
		t.Errorf("%s: %q, %d, not %q, %d", what, got, err, wanted, wantedErr)
	}
}

// P18.1: the chapter's example.
func TestExample(t *testing.T) {
	d := disk.New(100)
	next(t, "the first", d, 5, "0000000500000001", api.OK)
	next(t, "the second", d, 5, "0000000500000002", api.OK)
}

// P18.1: each name has the tick, and a number more; it is written as the record of kind 6.
func TestNext(t *testing.T) {
	d := disk.New(1000)
	for i, tick := range []int{0, 7, 7, 3, 1<<40 - 1, 0} {
		next(t, "Next", d, tick, id(tick, i+1), api.OK)
		holds(t, "Next", d, "seq", record(6, number(uint64(i+1))))
	}
	d.Crash()
	next(t, "behind a crash", d, 9, id(9, 7), api.OK)
}

// P18.1: the number goes on from what `seq` says, up to 2^40 - 1; the record's bytes.
func TestNextNumbers(t *testing.T) {
	for _, n := range []uint64{0, 1, 126, 127, 128, 1<<20 - 1, 1 << 32, 1<<40 - 3, 1<<40 - 2} {
		d := disk.New(1000)
		put(d, "seq", record(6, number(n)))
		next(t, "Next", d, 33, id(33, int(n)+1), api.OK)
		holds(t, "Next", d, "seq", record(6, number(n+1)))
	}
	d := disk.New(1000)
	put(d, "seq", record(6, number(1<<40-2)))
	next(t, "the last number", d, 33, "00000011zzzzzzzz", api.OK)
	next(t, "one more", d, 33, "", api.ErrBig)
	holds(t, "one more", d, "seq", record(6, number(1<<40-1)))
}

// P18.1, K2: what `seq` may not be, ahead of all other errors; nothing is changed.
func TestNextDamaged(t *testing.T) {
	good := record(6, number(300))
	for _, c := range []struct {
		what, seq string
		err       api.Errno
	}{
		{"empty", "", api.ErrEnd},
		{"a byte", good[:1], api.ErrEnd},
		{"cut", good[:len(good)-1], api.ErrEnd},
		{"a record that is too big", "\x06\x81\x80\x40", api.ErrBig},
		{"a record's number in another way", "\x06\x82\x00", api.ErrForm},
		{"another byte of it", good[:len(good)-1] + "\x03", api.ErrSum},
		{"another byte of its sum", good[:2] + string([]byte{good[2] ^ 1}) + good[3:], api.ErrSum},
		{"another kind without its sum", "\x05" + good[1:], api.ErrSum},
		{"another kind", record(5, number(300)), api.ErrForm},
		{"kind 0", record(0, number(300)), api.ErrForm},
		{"a byte behind", good + "x", api.ErrForm},
		{"twice", good + good, api.ErrForm},
		{"no number", record(6, ""), api.ErrEnd},
		{"a number that is cut", record(6, "\x80"), api.ErrEnd},
		{"a number in another way", record(6, "\x80\x00"), api.ErrForm},
		{"a number of eleven bytes", record(6, strings.Repeat("\xff", 10)+"\x01"), api.ErrForm},
		{"a byte behind the number", record(6, number(300)+"x"), api.ErrForm},
		{"2^40 - 1", record(6, number(1<<40-1)), api.ErrBig},
		{"2^40", record(6, number(1<<40)), api.ErrBig},
		{"2^64 - 1", record(6, number(math.MaxUint64)), api.ErrBig},
		{"2^40 - 1, and a byte", record(6, number(1<<40-1)+"x"), api.ErrBig},
	} {
		d := disk.New(len(c.seq))
		put(d, "seq", c.seq)
		d.Arm(0, true)
		next(t, c.what, d, 5, "", c.err)
		next(t, c.what+", no tick", d, -1, "", c.err)
		untried(t, c.what, d.Fuse)
		holds(t, c.what, d, "seq", c.seq)
	}
}

// P18.1, K2: ticks that go into no name, ahead of what has no room.
func TestNextTicks(t *testing.T) {
	for _, tick := range []int{-1, math.MinInt, 1 << 40, math.MaxInt} {
		for _, room := range []int{0, 1000} {
			d := disk.New(room)
			d.Arm(0, true)
			next(t, "Next", d, tick, "", api.ErrArg)
			untried(t, "Next", d.Fuse)
			holds(t, "Next", d)
		}
	}
	d := disk.New(1000)
	next(t, "the last tick", d, 1<<40-1, "zzzzzzzz00000001", api.OK)
	next(t, "the first tick", d, 0, "0000000000000002", api.OK)
}

// P18.1: a record that has more bytes than are free changes nothing; an unfinished file's, and the elder record's, aren't free.
func TestNextFull(t *testing.T) {
	n := len(record(6, number(1)))
	d := disk.New(2*n - 1)
	next(t, "room", d, 5, id(5, 1), api.OK)
	d.Arm(0, true)
	next(t, "a byte too few", d, 5, "", api.ErrFull)
	untried(t, "a byte too few", d.Fuse)
	holds(t, "a byte too few", d, "seq", record(6, number(1)))
	d = disk.New(2 * n)
	next(t, "room", d, 5, id(5, 1), api.OK)
	next(t, "all that is free", d, 5, id(5, 2), api.OK)
	put(d, "tmp-wal", "x")
	next(t, "an unfinished file", d, 5, "", api.ErrFull)
	holds(t, "an unfinished file", d, "seq", record(6, number(2)), "tmp-wal", "x")
	// A number of one byte more has a longer record.
	d = disk.New(2 * n)
	put(d, "seq", record(6, number(127)))
	next(t, "a longer one", d, 5, "", api.ErrFull)
	next(t, "nothing free", disk.New(0), 5, "", api.ErrFull)
}

// P18.1, P18.3: a call that fails: no name is answered; whether the number is the last one then or not, no name comes twice.
func TestNextFails(t *testing.T) {
	first, second := record(6, number(1)), record(6, number(2))
	for _, c := range []struct {
		stale  bool
		after  int
		done   bool
		wanted []string
		then   int
	}{
		{false, 0, false, []string{"seq", first}, 2},
		{false, 0, true, []string{"seq", first, "tmp-wal", second}, 2},
		{false, 1, false, []string{"seq", first, "tmp-wal", second}, 2},
		{false, 1, true, []string{"seq", first, "tmp-wal", second}, 2},
		{false, 2, false, []string{"seq", first, "tmp-wal", second}, 2},
		{false, 2, true, []string{"seq", second}, 3},
		{true, 0, false, []string{"seq", first, "tmp-wal", "left behind"}, 2},
		{true, 0, true, []string{"seq", first}, 2},
		{true, 3, false, []string{"seq", first, "tmp-wal", second}, 2},
		{true, 3, true, []string{"seq", second}, 3},
	} {
		for _, crash := range []bool{false, true} {
			d := disk.New(1000)
			next(t, "the first", d, 5, id(5, 1), api.OK)
			if c.stale {
				put(d, "tmp-wal", "left behind")
			}
			d.Arm(c.after, c.done)
			next(t, "fails", d, 5, "", api.ErrIO)
			holds(t, "fails", d, c.wanted...)
			if crash {
				d.Crash()
			}
			next(t, "again", d, 5, id(5, c.then), api.OK)
		}
	}
}

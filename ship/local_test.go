package ship

import (
	"slices"
	"strings"
	"testing"

	"barograph/api"
	"barograph/block"
	"barograph/disk"
	"barograph/meta"
)

// local: the names and the bytes of a local block's files, in turn.
func local(name string, f block.Files) []string {
	return []string{"blk-" + name + "-chunks", f.Chunks, "blk-" + name + "-index", f.Index, "blk-" + name + "-meta", meta.Encode(f.Meta)}
}

// loads: is this the local block of that name?
func loads(t *testing.T, what string, d *disk.Disk, name string, wanted block.Files) {
	t.Helper()
	if f, err := Load(d, name); err != api.OK || !same(f, wanted) {
		t.Errorf("%s: Load %q: %+v, %d", what, name, f.Meta, err)
	}
}

// lacks: is there no such local block, with this error, and zero beside it?
func lacks(t *testing.T, what string, d *disk.Disk, name string, wanted api.Errno) {
	t.Helper()
	f, err := Load(d, name)
	if err != wanted || !same(f, block.Files{}) || f.Meta.Files != nil || f.Meta.Sources != nil {
		t.Errorf("%s: Load %q: %+v, %d, not %d", what, name, f.Meta, err, wanted)
	}
}

// are: are these the local blocks?
func are(t *testing.T, what string, d *disk.Disk, wanted ...string) {
	t.Helper()
	if l := Locals(d); !slices.Equal(l, wanted) {
		t.Errorf("%s: Locals: %q, not %q", what, l, wanted)
	}
}

// P18.1: what is saved is loaded, behind a crash, too; its three files.
func TestSave(t *testing.T) {
	a, b := built(t, id(5, 1), 3), built(t, id(6, 2), 4, id(5, 1), id(5, 7))
	d := disk.New(5000)
	want(t, "Save", Save(d, b), api.OK)
	holds(t, "one", d, local(id(6, 2), b)...)
	want(t, "Save", Save(d, a), api.OK)
	holds(t, "two", d, slices.Concat(local(id(5, 1), a), local(id(6, 2), b))...)
	d.Crash()
	loads(t, "a", d, id(5, 1), a)
	loads(t, "b", d, id(6, 2), b)
	are(t, "two", d, id(5, 1), id(6, 2))
}

// P18.1: the same block again, and another one of the name; what was left of one is replaced.
func TestSaveAgain(t *testing.T) {
	f := built(t, id(5, 1), 3)
	d := disk.New(5000)
	for _, name := range []string{"chunks", "index", "meta"} {
		put(d, "blk-"+id(5, 1)+"-"+name, "left behind")
	}
	for _, g := range []block.Files{f, f, built(t, id(5, 1), 4)} {
		want(t, "Save", Save(d, g), api.OK)
		d.Crash()
		holds(t, "Save", d, local(id(5, 1), g)...)
		loads(t, "Save", d, id(5, 1), g)
	}
}

// P18.1: a block of no rows has empty chunks.
func TestSaveEmpty(t *testing.T) {
	f, err := block.Build(id(5, 1), 0, 10, 1, nil, nil)
	d := disk.New(1000)
	if err != api.OK || f.Chunks != "" {
		t.Fatalf("Build: %d", err)
	}
	want(t, "Save", Save(d, f), api.OK)
	d.Crash()
	loads(t, "no rows", d, id(5, 1), f)
	are(t, "no rows", d, id(5, 1))
}

// P18.1: what has more bytes than are free changes nothing; elder files of the name, and an unfinished one, aren't free.
func TestSaveFull(t *testing.T) {
	f := built(t, id(5, 1), 3)
	n := size(f)
	d := disk.New(n - 1)
	d.Arm(0, true)
	want(t, "a byte too few", Save(d, f), api.ErrFull)
	untried(t, "a byte too few", d.Fuse)
	holds(t, "a byte too few", d)
	d = disk.New(n)
	want(t, "all that is free", Save(d, f), api.OK)
	want(t, "again", Save(d, f), api.ErrFull)
	holds(t, "again", d, local(id(5, 1), f)...)
	d = disk.New(2*n - 1)
	lay(d, id(5, 1), f)
	want(t, "again, a byte too few", Save(d, f), api.ErrFull)
	holds(t, "again, a byte too few", d, local(id(5, 1), f)...)
	d = disk.New(2 * n)
	lay(d, id(5, 1), f)
	want(t, "again, with room", Save(d, f), api.OK)
	d = disk.New(n)
	put(d, "tmp-wal", "x")
	want(t, "an unfinished file", Save(d, f), api.ErrFull)
	holds(t, "an unfinished file", d, "tmp-wal", "x")
	want(t, "nothing free", Save(disk.New(0), f), api.ErrFull)
}

// P18.1, P18.2: chunks, index, meta, each written, synced, renamed; behind the first call that fails no other one is tried.
func TestSaveFails(t *testing.T) {
	f := built(t, id(5, 1), 3)
	all := local(id(5, 1), f)
	for after := range 9 {
		for _, done := range []bool{false, true} {
			d := disk.New(5000)
			d.Arm(after, done)
			want(t, "Save", Save(d, f), api.ErrIO)
			there := after / 3
			if after%3 == 2 && done {
				there++
			}
			wanted := slices.Clone(all[:2*there])
			if after%3 > 0 && !(after%3 == 2 && done) || after%3 == 0 && done {
				wanted = append(wanted, "tmp-wal", all[2*(after/3)+1])
			}
			holds(t, "fails", d, wanted...)
			d.Crash()
			if there == 3 {
				loads(t, "done", d, id(5, 1), f)
				are(t, "done", d, id(5, 1))
			} else {
				lacks(t, "not done", d, id(5, 1), api.ErrNone)
				are(t, "not done", d)
			}
			want(t, "again", Save(d, f), api.OK)
			d.Crash()
			holds(t, "again", d, all...)
		}
	}
	d := disk.New(5000)
	d.Arm(9, false)
	want(t, "nine calls", Save(d, f), api.OK)
	if works, _ := d.Try(); works {
		t.Error("not nine calls")
	}
}

// P18.1, K2: each error of Load, the first one that the chapter names.
func TestLoadErrors(t *testing.T) {
	f := built(t, id(5, 1), 3)
	said := meta.Encode(f.Meta)
	other := built(t, id(5, 1), 4)
	bent := func(s string) string { return string([]byte{s[0] ^ 1}) + s[1:] }
	const none = "\x00none" // such a file isn't there
	for _, c := range []struct {
		what, chunks, index, meta string
		err                       api.Errno
	}{
		{"whole", f.Chunks, f.Index, said, api.OK},
		{"nothing", none, none, none, api.ErrNone},
		{"no meta", f.Chunks, f.Index, none, api.ErrNone},
		{"an empty meta", f.Chunks, f.Index, "", api.ErrEnd},
		{"a meta that is cut", f.Chunks, f.Index, said[:len(said)-1], api.ErrEnd},
		{"a meta of which a byte is another one", f.Chunks, f.Index, said[:9] + bent(said[9:]), api.ErrSum},
		{"a meta, and a byte", f.Chunks, f.Index, said + "x", api.ErrForm},
		{"a mark", f.Chunks, f.Index, meta.EncodeMark(id(5, 1), 7), api.ErrForm},
		{"a meta with too high a level", f.Chunks, f.Index, record(1, "\x10"+id(5, 1)+"\x00\x64\x0a"), api.ErrBig},
		{"a meta that is cut, and nothing else", none, none, said[:len(said)-1], api.ErrEnd},
		{"a meta of another kind, and nothing else", none, none, record(2, ""), api.ErrForm},
		{"no chunks", none, f.Index, said, api.ErrNone},
		{"no index", f.Chunks, none, said, api.ErrNone},
		{"a meta alone", none, none, said, api.ErrNone},
		{"no chunks, and another index", none, other.Index, said, api.ErrNone},
		{"other chunks, and no index", other.Chunks, none, said, api.ErrNone},
		{"other chunks", other.Chunks, f.Index, said, api.ErrSum},
		{"another index", f.Chunks, other.Index + "x", said, api.ErrSum},
		{"another meta", f.Chunks, f.Index, meta.Encode(other.Meta), api.ErrSum},
		{"empty chunks", "", f.Index, said, api.ErrSum},
		{"an empty index", f.Chunks, "", said, api.ErrSum},
		{"chunks that are cut", f.Chunks[:len(f.Chunks)-1], f.Index, said, api.ErrSum},
		{"chunks, and a byte", f.Chunks + "\x00", f.Index, said, api.ErrSum},
		{"chunks of which a byte is another one", bent(f.Chunks), f.Index, said, api.ErrSum},
		{"an index of which a byte is another one", f.Chunks, bent(f.Index), said, api.ErrSum},
		{"the two the other way round", f.Index, f.Chunks, said, api.ErrSum},
	} {
		for _, name := range []string{id(5, 1), "x", ""} {
			d := disk.New(5000)
			for i, s := range []string{c.chunks, c.index, c.meta} {
				if s != none {
					put(d, "blk-"+name+[]string{"-chunks", "-index", "-meta"}[i], s)
				}
			}
			if c.err == api.OK {
				loads(t, c.what, d, name, f)
				are(t, c.what, d, name)
				continue
			}
			lacks(t, c.what, d, name, c.err)
			are(t, c.what, d)
		}
	}
}

// P18.1: bytes of files that are no table, but what the meta says, are whole.
func TestLoadAnyBytes(t *testing.T) {
	f := block.Files{Chunks: "any", Index: "bytes"}
	f.Meta = meta.Meta{ID: id(5, 1), Max: 1, Level: 1, Files: []meta.File{meta.Of("chunks", "any"), meta.Of("index", "bytes")}}
	d := disk.New(1000)
	lay(d, id(5, 1), f)
	loads(t, "any bytes", d, id(5, 1), f)
	are(t, "any bytes", d, id(5, 1))
	want(t, "Tidy", Tidy(d), api.OK)
	holds(t, "Tidy", d, local(id(5, 1), f)...)
}

// P18.1: any text may be asked for; a block's own name plays no part.
func TestLoadAnyText(t *testing.T) {
	f := built(t, id(5, 1), 3)
	d := disk.New(9000)
	names := []string{"", "-", "a", "a-meta", "meta", "\x00\xff", id(7, 9), strings.Repeat("n", 29)}
	for _, name := range names {
		lay(d, name, f)
	}
	for _, name := range names {
		loads(t, "any text", d, name, f)
	}
	for _, name := range []string{id(5, 1), "b", "a-", "-meta", strings.Repeat("n", 30), strings.Repeat("n", 28), strings.Repeat("x", 1000)} {
		lacks(t, "any text", d, name, api.ErrNone)
	}
}

// K3, K1: what Load answered is the caller's own, what is handed to Save stays as it is.
func TestLocalIsOwn(t *testing.T) {
	f := built(t, id(5, 1), 3, id(1, 1), id(1, 2))
	d := disk.New(5000)
	want(t, "Save", Save(d, f), api.OK)
	if !same(f, built(t, id(5, 1), 3, id(1, 1), id(1, 2))) {
		t.Error("Save changed what it was handed")
	}
	g, _ := Load(d, id(5, 1))
	g.Meta.Files[0], g.Meta.Sources[1] = meta.File{}, "x"
	f.Meta.Files[1], f.Meta.Sources[0] = meta.File{}, "y"
	loads(t, "again", d, id(5, 1), built(t, id(5, 1), 3, id(1, 1), id(1, 2)))
	l := Locals(d)
	l[0] = "x"
	are(t, "again", d, id(5, 1))
}

// P18.1: the whole ones alone, by their metas' files' names, whatever names their metas say.
func TestLocals(t *testing.T) {
	a, b := built(t, id(5, 1), 3), built(t, id(6, 2), 4)
	d := disk.New(90000)
	are(t, "nothing", d)
	lay(d, id(9, 9), a)
	lay(d, id(2, 7), b)
	lay(d, "x", a)
	lay(d, "x-y", a)
	lay(d, "", b)
	lay(d, "0", b)
	put(d, "blk-meta", meta.Encode(a.Meta))
	put(d, "blk-"+id(1, 1)+"-meta", meta.Encode(a.Meta))
	put(d, "blk-"+id(1, 2)+"-chunks", a.Chunks)
	put(d, "blk-"+id(1, 2)+"-index", a.Index)
	put(d, "blk-"+id(1, 3)+"-chunks", a.Chunks)
	put(d, "blk-"+id(1, 3)+"-index", a.Index)
	put(d, "blk-"+id(1, 3)+"-meta", "junk")
	put(d, "shp-x-meta", "junk")
	put(d, "xblk-y-meta", "junk")
	d.Arm(0, true)
	are(t, "several", d, "", "0", id(2, 7), id(9, 9), "x", "x-y")
	untried(t, "Locals", d.Fuse)
}

// P18.1, P18.2: meta, index, chunks, in this order; behind the first call that fails no other one is tried.
func TestErase(t *testing.T) {
	f, g := built(t, id(5, 1), 3), built(t, id(5, 2), 4)
	all, others := local(id(5, 1), f), slices.Concat(local(id(5, 2), g), []string{"shp-" + id(5, 1), "note"})
	for after := range 4 {
		for _, done := range []bool{false, true} {
			d := disk.New(5000)
			lay(d, id(5, 1), f)
			lay(d, id(5, 2), g)
			put(d, "shp-"+id(5, 1), "note")
			d.Arm(after, done)
			gone, wanted := after, api.ErrIO
			if after == 3 {
				wanted = api.OK
			} else if done {
				gone++
			}
			want(t, "Erase", Erase(d, id(5, 1)), wanted)
			holds(t, "Erase", d, append(slices.Clone(all[:6-2*gone]), others...)...)
			if gone == 0 {
				loads(t, "not done", d, id(5, 1), f)
			} else {
				lacks(t, "done", d, id(5, 1), api.ErrNone)
			}
			if after == 3 {
				continue
			}
			d.Crash()
			want(t, "again", Erase(d, id(5, 1)), api.OK)
			holds(t, "again", d, others...)
		}
	}
}

// P18.1: what isn't there is passed over, without a call.
func TestErasePart(t *testing.T) {
	for part := range 8 {
		d := disk.New(1000)
		n := 0
		for i, name := range []string{"chunks", "index", "meta"} {
			if part>>i&1 == 1 {
				put(d, "blk-"+id(5, 1)+"-"+name, "junk")
				n++
			}
		}
		put(d, "blk-"+id(5, 1)+"-mark", "stays")
		d.Arm(n, false)
		want(t, "Erase", Erase(d, id(5, 1)), api.OK)
		untried(t, "Erase", d.Fuse)
		holds(t, "Erase", d, "blk-"+id(5, 1)+"-mark", "stays")
	}
}

// P18.1: what is of no whole block is gone, by what stands up to the next -; all else stays.
func TestTidy(t *testing.T) {
	a, b := built(t, id(5, 1), 3), built(t, id(6, 2), 4)
	d := disk.New(90000)
	want(t, "nothing", Tidy(d), api.OK)
	stays := []string{"BLK-x-meta", "blk", "blk_x-meta", "seq", "shp-" + id(5, 1), "tmp-wal", "wal-00000001", "xblk-x-meta"}
	for _, name := range stays {
		put(d, name, "stays")
	}
	lay(d, id(5, 1), a)
	lay(d, id(6, 2), a) // of a meta that says another name
	lay(d, "whole", b)
	put(d, "blk-whole-more", "of a whole one")
	put(d, "blk-whole-x-meta", "of a whole one")
	put(d, "blk-whole-", "of a whole one")
	wanted := files(d)
	lay(d, "x-y", a) // its files are x's
	lay(d, "torn", a)
	d.Truncate("blk-torn-index", 3)
	for _, name := range []string{"blk-", "blk--", "blk--meta", "blk-junk", "blk-junk-index", "blk-wholex-meta", "blk-whol-meta", "blk-meta", "blk-chunks", "blk-\xff"} {
		put(d, name, "gone")
	}
	put(d, "blk-"+id(1, 1)+"-meta", meta.Encode(a.Meta))
	put(d, "blk-"+id(1, 2)+"-chunks", a.Chunks)
	put(d, "blk-"+id(1, 2)+"-index", a.Index)
	are(t, "ahead", d, id(5, 1), id(6, 2), "whole", "x-y")
	want(t, "Tidy", Tidy(d), api.OK)
	holds(t, "Tidy", d, wanted...)
	d.Arm(0, true)
	want(t, "again", Tidy(d), api.OK)
	untried(t, "again", d.Fuse)
	are(t, "behind", d, id(5, 1), id(6, 2), "whole")
}

// P18.1: by rising names; behind the first call that fails no other one is tried.
func TestTidyFails(t *testing.T) {
	f := built(t, id(5, 5), 3)
	gone := []string{"blk-" + id(1, 1) + "-chunks", "blk-" + id(1, 1) + "-index", "blk-" + id(9, 9) + "-chunks", "blk-" + id(9, 9) + "-meta", "blk-x"}
	for after := range gone {
		for _, done := range []bool{false, true} {
			d := disk.New(5000)
			lay(d, id(5, 5), f)
			for _, name := range gone {
				put(d, name, "junk")
			}
			d.Arm(after, done)
			want(t, "Tidy", Tidy(d), api.ErrIO)
			left := gone[after:]
			if done {
				left = left[1:]
			}
			for _, name := range gone {
				if _, err := d.Read(name); (err == api.OK) != slices.Contains(left, name) {
					t.Errorf("after %d, %v: %s: %d", after, done, name, err)
				}
			}
			loads(t, "Tidy", d, id(5, 5), f)
			want(t, "again", Tidy(d), api.OK)
			holds(t, "again", d, local(id(5, 5), f)...)
		}
	}
}

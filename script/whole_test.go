package script

import (
	"slices"
	"strings"
	"testing"

	"barograph/api"
	"barograph/frame"
	"barograph/head"
	"barograph/ident"
	"barograph/meta"
	"barograph/ship"
)

// is: have these the same text?
func is(t *testing.T, what, got, want string) {
	t.Helper()
	if got != want {
		t.Errorf("%s: %q, not %q", what, got, want)
	}
}

// names: those of the objects, with blanks between.
func names(w *World) string {
	var l []string
	for _, o := range w.Engine().Bucket().Look("") {
		l = append(l, o.Name)
	}
	return strings.Join(l, " ")
}

// listed: those of the files that begin so, with blanks between.
func listed(w *World, prefix string) string {
	return strings.Join(w.Engine().Disk().List(prefix), " ")
}

// asks: what a query of all tells.
func asks(t *testing.T, w *World, want string) {
	t.Helper()
	plays(t, w, "ask 99 0 "+most+"\nread 99 1000\nresult 99\n", "ok\nerror 17\n"+want+"\n")
}

// named: the name of a block that was made at a tick, with that number.
func named(tick, seq int) string {
	id, _ := ident.Make(tick, seq)
	return id
}

// parts: a block's objects.
func parts(id string, l ...string) string {
	for i, p := range l {
		l[i] = ident.Object(id, p)
	}
	return strings.Join(l, " ")
}

// shipped: samples in four ranges, of which the first two are blocks of the bucket.
func shipped(t *testing.T) *World {
	t.Helper()
	w := world(t, roomy())
	plays(t, w, "append a=1 1 1;b=1 2 2;a=1 11 11;a=1 21 21;a=1 31 31\ncut\ncut\ncut\nship 8\nship 1\n", "ok\nok\nok\nerror 17\nok\nerror 17\n")
	return w
}

const all = "ok a=1 1=1 11=11 21=21 31=31; b=1 2=2"

// The whole's example 1: a sample is in the log, synced, then in the head.
func TestWholeAppend(t *testing.T) {
	w := world(t, roomy())
	plays(t, w, "append a=1 5 77", "ok\n")
	e := w.Engine()
	s, _ := e.Disk().Read("wal-00000001")
	l, n := frame.All(s)
	if n != len(s) || len(l) != 2 || l[0].Kind != head.KindSeries || l[1].Kind != head.KindSamples || e.Head().Samples() != 1 {
		t.Errorf("%v, %d samples", l, e.Head().Samples())
	}
	plays(t, w, "crash", "ok\n")
	if again, _ := e.Disk().Read("wal-00000001"); again != s {
		t.Errorf("%q, not %q", again, s)
	}
	// What can't be logged isn't in the head.
	cfg := roomy()
	cfg.Room = 3
	w = world(t, cfg)
	plays(t, w, "append a=1 5 77", "error 7\n")
	if n := w.Engine().Head().Samples(); n != 0 {
		t.Errorf("%d samples", n)
	}
	// Neither is what is logged, but not synced.
	w = world(t, roomy())
	plays(t, w, "disk 1 0\nappend a=1 5 77\ncrash\nrecover\nask 1 0 9\nread 1 9\nresult 1", "ok\nerror 8\nok\nok\nok\nerror 17\nok\n")
}

// The whole's example 2: behind a crash the log's records make the head again.
func TestWholeCrash(t *testing.T) {
	w := world(t, roomy())
	plays(t, w, "append a=1 5 77;b=1,c=x 6 78\nappend a=1 6 79\nappend a=1 6 80\n", "ok\nok\nerror 11 at 0\n")
	was := state(w.Engine())
	for range 3 {
		plays(t, w, "crash 9 9\nappend a=1 9 9\nrecover", "ok\nerror 9\nok\n")
		is(t, "behind a crash", state(w.Engine()), was)
		asks(t, w, "ok a=1 5=77 6=79; b=1,c=x 6=78")
	}
	plays(t, w, "append a=1 6 80\nappend a=1 7 80\n", "error 11 at 0\nok\n")
	asks(t, w, "ok a=1 5=77 6=79 7=80; b=1,c=x 6=78")
}

// The whole's example 3: once there are samples of later ranges, the eldest one is a local block, and the floor is logged.
func TestWholeCut(t *testing.T) {
	w := world(t, roomy())
	plays(t, w, "append a=1 3 3;b=1 9 9\ncut\nappend a=1 19 19\ncut\nappend a=1 20 20\ncut\ncut\n", "ok\nerror 17\nok\nerror 17\nok\nok\nerror 17\n")
	id := named(0, 1)
	for range 2 {
		is(t, "the local block", listed(w, "blk-"), "blk-"+id+"-chunks blk-"+id+"-index blk-"+id+"-meta")
		h := w.Engine().Head()
		if h.Floor() != 10 || h.Samples() != 2 || h.Series() != 1 {
			t.Errorf("floor %d, %d samples, %d series", h.Floor(), h.Samples(), h.Series())
		}
		f, err := ship.Load(w.Engine().Disk(), id)
		if m := f.Meta; err != api.OK || m.Min != 0 || m.Max != 10 || m.Level != 1 || m.Samples != 2 || len(m.Sources) != 0 {
			t.Errorf("%v, %d", m, err)
		}
		plays(t, w, "append b=1 9 9\n", "error 10 at 0\n")
		asks(t, w, "ok a=1 3=3 19=19 20=20; b=1 9=9")
		plays(t, w, "crash\nrecover\n", "ok\nok\n")
	}
}

// The whole's example 4: chunks, index, meta; a note; the local block is gone.
func TestWholeShip(t *testing.T) {
	w := world(t, roomy())
	plays(t, w, "tick 4\nappend a=1 1 1;a=1 21 21\ncut\ntick 1\n", "ok\nok\nok\nok\n")
	id := named(4, 1)
	local := listed(w, "blk-")
	for _, l := range [][]string{{"chunks"}, {"chunks", "index"}, {"chunks", "index", "meta"}} {
		plays(t, w, "checkpoint\nship 1\n", "error 15\nok\n")
		is(t, "objects", names(w), parts(id, l...))
		is(t, "files", listed(w, "blk-")+listed(w, "shp-"), local)
		asks(t, w, "ok a=1 1=1 21=21")
	}
	plays(t, w, "ship 1\nship 1\n", "ok\nerror 17\n")
	is(t, "objects", names(w), parts(id, "chunks", "index", "meta"))
	is(t, "files", listed(w, "blk-")+listed(w, "shp-"), "shp-"+id)
	if l := ship.Noted(w.Engine().Disk()); len(l) != 1 || l[0].Meta.ID != id || l[0].At != 5 {
		t.Errorf("%v", l)
	}
	asks(t, w, "ok a=1 1=1 21=21")
	plays(t, w, "checkpoint\n", "ok\n")
}

// The whole's example 5: ahead of the bucket's index the note says which block is to be read, too.
func TestWholeNote(t *testing.T) {
	w := shipped(t)
	// No index; of two blocks their index and their rows.
	plays(t, w, "ask 1 0 99\nread 1 6\nresult 1\nread 1 1\nread 1 1\nresult 1\n", "ok\nok\nok "+all[3:]+"\nerror 5\nerror 5\nerror 5\n")
	asks(t, w, all)
	// The index that is put now has both; a later one's block it hasn't.
	plays(t, w, "update 9\ntick 1\nupdate 9\n", "error 17\nok\nerror 17\n")
	is(t, "notes", listed(w, "shp-"), "")
	plays(t, w, "append a=1 41 41\ncut\nship 9\n", "ok\nok\nerror 17\n")
	is(t, "notes", listed(w, "shp-"), "shp-"+named(1, 3))
	asks(t, w, "ok a=1 1=1 11=11 21=21 31=31 41=41; b=1 2=2")
	// Without the note it is the index alone that says what there is.
	ship.Forget(w.Engine().Disk(), named(1, 3))
	asks(t, w, "ok a=1 1=1 11=11 31=31 41=41; b=1 2=2")
}

// marksOf: the blocks of a bucket that have a mark.
func marksOf(w *World) []string {
	var l []string
	for _, o := range w.Engine().Bucket().Look("") {
		if id, part, there := ident.Split(o.Name); there && part == ident.Mark {
			l = append(l, id)
		}
	}
	return l
}

// metaOf: what a bucket says of a block.
func metaOf(w *World, id string) (meta.Meta, bool) {
	s, there := w.Engine().Bucket().Peek(ident.Object(id, ident.Meta))
	m, err := meta.Decode(s)
	return m, there && err == api.OK
}

// The whole's example 6: of two blocks side by side a third one is made; then they are marked.
func TestWholeCompact(t *testing.T) {
	w := shipped(t)
	one, two, three := named(0, 1), named(0, 2), named(0, 3)
	calls := 0
	for said := "ok\n"; said == "ok\n"; calls++ {
		m, there := metaOf(w, three)
		l := marksOf(w)
		if len(l) > 0 && !there || there && (!slices.Equal(m.Sources, []string{one, two}) || m.Min != 0 || m.Max != 20 || m.Level != 2 || m.Samples != 3) {
			t.Errorf("%d: %v, marks of %v", calls, m, l)
		}
		asks(t, w, all)
		said = w.Play([]Step{numbers(Compact, 1)})
	}
	// A List, two Gets; of each an index and its rows; the build; three Puts, two marks; a List, five Gets; ErrIdle.
	if calls != 1+2+5+1+3+2+1+5+1 {
		t.Errorf("%d calls", calls)
	}
	is(t, "marks", strings.Join(marksOf(w), " "), one+" "+two)
	plays(t, w, "compact 99\n", "error 17\n")
	is(t, "objects", names(w), strings.Join([]string{parts(one, "chunks", "index", "mark", "meta"), parts(two, "chunks", "index", "mark", "meta"), parts(three, "chunks", "index", "meta")}, " "))
	asks(t, w, all)
}

// The whole's example 7: Delay ticks later these are deleted, their metas first.
func TestWholeSweep(t *testing.T) {
	w := shipped(t)
	plays(t, w, "compact 99\nupdate 99\nsweep 99\ntick 8\nupdate 99\nupdate 99\nsweep 99\n", "error 17\nerror 17\nerror 17\nok\nerror 17\nerror 17\nerror 17\n")
	one, two, three := named(0, 1), named(0, 2), named(0, 3)
	if n := len(w.Engine().Bucket().Look("")); n != 12 {
		t.Errorf("%s", names(w))
	}
	plays(t, w, "tick 1\n", "ok\n")
	var gone []string
	for said := "ok\n"; said == "ok\n"; {
		was := strings.Fields(names(w))
		said = w.Play([]Step{numbers(Sweep, 1)})
		for _, name := range was {
			if _, there := w.Engine().Bucket().Peek(name); !there {
				gone = append(gone, name)
			}
		}
		asks(t, w, all)
	}
	is(t, "gone", strings.Join(gone, " "), parts(one, "meta", "index", "chunks", "mark")+" "+parts(two, "meta", "index", "chunks", "mark"))
	is(t, "left", names(w), parts(three, "chunks", "index", "meta")+" index")
	plays(t, w, "update 99\n", "error 17\n")
	asks(t, w, all)
}

// The whole's example 8: what an upload put that a crash cut off is deleted, when it is old enough; the block is shipped under another name, when it is too old.
func TestWholeCutOff(t *testing.T) {
	w := world(t, roomy())
	plays(t, w, "append a=1 1 1;a=1 21 21\ncut\nship 2\ncrash\nrecover\nupdate 9\n", "ok\nok\nok\nok\nok\nerror 17\n")
	id := named(0, 1)
	asks(t, w, "ok a=1 1=1 21=21")
	plays(t, w, "tick 6\nsweep 9\nsweep 9\n", "ok\nerror 17\nerror 17\n")
	is(t, "not yet", names(w), parts(id, "chunks", "index")+" index")
	plays(t, w, "tick 1\nsweep 9\n", "ok\nerror 17\n")
	is(t, "deleted", names(w), "index")
	asks(t, w, "ok a=1 1=1 21=21")
	other := named(7, 2)
	plays(t, w, "ship 1\n", "ok\n")
	is(t, "renamed", listed(w, "blk-"), "blk-"+other+"-chunks blk-"+other+"-index blk-"+other+"-meta")
	is(t, "not put yet", names(w), "index")
	asks(t, w, "ok a=1 1=1 21=21")
	plays(t, w, "ship 9\n", "error 17\n")
	is(t, "put", names(w), parts(other, "chunks", "index", "meta")+" index")
	asks(t, w, "ok a=1 1=1 21=21")
	// In time it is shipped under its own name.
	w = world(t, roomy())
	plays(t, w, "append a=1 1 1;a=1 21 21\ncut\nship 2\ncrash\nrecover\ntick 5\nship 9\n", "ok\nok\nok\nok\nok\nok\nerror 17\n")
	is(t, "in time", names(w), parts(id, "chunks", "index", "meta"))
}

// The whole's example 9: a query that takes too long answers error 14.
func TestWholeStale(t *testing.T) {
	w := shipped(t)
	plays(t, w, "update 9\nask 1 0 99\nask 2 0 99\nask 3 0 99\nread 1 1\nread 2 2\ntick 8\nread 2 9\nresult 2\n", "error 17\nok\nok\nok\nok\nok\nok\nerror 17\n"+all+"\n")
	plays(t, w, "tick 1\nresult 1\nread 1 1\nresult 1\nresult 1\n", "ok\nerror 15\nerror 14\nerror 14\nerror 5\n")
	plays(t, w, "read 3 1\nread 3 1\nresult 3\nresult 3\n", "error 14\nerror 17\nerror 14\nerror 5\n")
	plays(t, w, "update 9\nupdate 9\n", "error 17\nerror 17\n")
	asks(t, w, all)
}

// The whole's example 10 is this chapter's: there and back, and played.
func TestWholeScript(t *testing.T) {
	const text = "append a=1 5 77\nask 1 0 9\nread 1 9\nresult 1\n"
	w := world(t, roomy())
	plays(t, w, text, "ok\nok\nerror 17\nok a=1 5=77\n")
	is(t, "there and back", Format(steps(t, text)), text)
}

package fetch

import (
	"testing"

	"barograph/api"
	"barograph/block"
	"barograph/bucket"
	"barograph/matcher"
	"barograph/merge"
)

// rolls: numbers that follow from where they begin, and from nothing else.
type rolls uint64

func (r *rolls) below(n int) int {
	*r = *r*6364136223846793005 + 1442695040888963407
	return int(uint64(*r)>>33) % n
}

// castTable: some labels, each with some times below 1000; one may have several chunks.
func (r *rolls) castTable() []merge.Row {
	var l []merge.Row
	for _, name := range []string{"_=1", "a=1", "a=1,b=1", "a=1,b=2", "a=2", "a=22,c=1", "b=1", "c=1"} {
		if r.below(4) == 0 {
			continue
		}
		x := row(name)
		wide := 1 + r.below(300)
		for at := r.below(1000); at < 1000; at += 1 + r.below(wide) {
			x.Samples = append(x.Samples, api.Sample{T: int64(at), V: uint64(r.below(5))})
		}
		l = append(l, x)
	}
	return l
}

// castMatch: up to two matchers.
func (r *rolls) castMatch() []matcher.Matcher {
	texts := []string{"a=1", "a=", "a!=1", "a!=", "a^2", "a@1|22", "b=1", "b=", "b!=1", "b@1|2", "c=1", "_=1", "d=", "d=1"}
	var l []matcher.Matcher
	for range r.below(3) {
		l = append(l, asks(texts[r.below(len(texts))])...)
	}
	return l
}

// plain: what a table says between two times of the series that all matchers fit, and how many rows lie around these times.
func plain(table []merge.Row, from, to int64, match []matcher.Matcher) ([]merge.Row, int) {
	var rows []merge.Row
	n := 0
	for _, x := range table {
		if !matcher.Match(x.Labels, match...) || x.Samples[0].T >= to || x.Samples[len(x.Samples)-1].T < from {
			continue
		}
		n++
		some := merge.Row{Labels: x.Labels}
		for _, s := range x.Samples {
			if s.T >= from && s.T < to {
				some.Samples = append(some.Samples, s)
			}
		}
		if len(some.Samples) > 0 {
			rows = append(rows, some)
		}
	}
	return rows, n
}

// hurt: something stands in the way of the next Step, which ends with an error then, if anything is left; it is taken away again by what is answered.
func (r *rolls) hurt(b *bucket.Bucket, f block.Files) func() {
	switch r.below(4) {
	case 0:
		b.Arm(0, r.below(2) == 0)
	case 1:
		b.Delete(id + "/index")
		b.Delete(id + "/chunks")
	case 2:
		b.Put(id+"/index", f.Index[:r.below(len(f.Index))], 0)
		b.Put(id+"/chunks", "", 0)
	default:
		b.Put(id+"/index", "x", 0)
		b.Put(id+"/chunks", "x"+f.Chunks, 0)
	}
	return func() {
		b.Clear()
		put(b, f)
	}
}

// P17.2: whatever fails between, Rows are the table's of these series, between these times; P17.3: the Steps that end with OK are as many as entries, and one.
func TestWhateverFails(t *testing.T) {
	for seed := range 500 {
		r := rolls(seed)
		table := r.castTable()
		file := built(t, table...)
		b := laid(file)
		from := int64(r.below(1100) - 50)
		to := from + int64(r.below(1000))
		match := r.castMatch()
		want, entries := plain(table, from, to, match)
		f := New(file.Meta, from, to, match...)
		good := 0
		for !f.Done() {
			if good > 20 {
				t.Fatalf("seed %d: it doesn't end", seed)
			}
			before := f.Rows()
			if r.below(3) > 0 {
				mend := r.hurt(b, file)
				if err := f.Step(b); err == api.OK || err == api.ErrIdle {
					t.Errorf("seed %d: %d", seed, err)
				}
				mend()
				has(t, "behind an error", f, false, before...)
				continue
			}
			steps(t, "a Step", f, b, api.OK)
			good++
			if !merge.Good(f.Rows()) {
				t.Errorf("no table: %v", f.Rows())
			}
		}
		steps(t, "done", f, b, api.ErrIdle)
		has(t, "done", f, true, want...)
		if good != entries+1 {
			t.Errorf("%d Steps, not %d", good, entries+1)
		}
		if t.Failed() {
			t.Fatalf("seed %d", seed)
		}
	}
}

// P17.3: so many Steps as entries that are to be read, and one, when none fails.
func TestHowManySteps(t *testing.T) {
	for seed := range 300 {
		r := rolls(seed)
		table := r.castTable()
		file := built(t, table...)
		b := laid(file)
		from, to, match := int64(r.below(1000)), int64(r.below(1000)), r.castMatch()
		want, entries := plain(table, from, to, match)
		f := New(file.Meta, from, to, match...)
		for range entries + 1 {
			steps(t, "a Step", f, b, api.OK)
		}
		steps(t, "one more", f, b, api.ErrIdle)
		has(t, "done", f, true, want...)
		if t.Failed() {
			t.Fatalf("seed %d", seed)
		}
	}
}

// P17.2: of a byte of the block that is another one nothing is read that wasn't built.
func TestAnotherByte(t *testing.T) {
	file := built(t, three()...)
	read := func(f block.Files) (*Fetch, api.Errno) {
		b := laid(f)
		x := New(file.Meta, 0, 1000)
		for {
			if err := x.Step(b); err != api.OK {
				return x, err
			}
		}
	}
	for at := range file.Index {
		x, err := read(block.Files{Index: file.Index[:at] + string([]byte{file.Index[at] ^ 1}) + file.Index[at+1:], Chunks: file.Chunks})
		if err != api.ErrSum {
			t.Errorf("index, byte %d: %d", at, err)
		}
		has(t, "another index", x, false)
	}
	for at := range file.Chunks {
		x, err := read(block.Files{Index: file.Index, Chunks: file.Chunks[:at] + string([]byte{file.Chunks[at] ^ 1}) + file.Chunks[at+1:]})
		if err != api.ErrSum || x.Done() {
			t.Errorf("chunks, byte %d: %d", at, err)
		}
		if n := len(x.Rows()); !equal(x.Rows(), three()[:n]) {
			t.Errorf("chunks, byte %d: %v", at, x.Rows())
		}
	}
}

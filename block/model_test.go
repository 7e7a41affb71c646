package block

import (
	"slices"
	"testing"

	"barograph/api"
	"barograph/merge"
)

// rolls: numbers that follow from where they begin, and from nothing else.
type rolls uint64

func (r *rolls) below(n int) int {
	*r = *r*6364136223846793005 + 1442695040888963407
	return int(uint64(*r)>>33) % n
}

// word: 64 bits.
func (r *rolls) word() uint64 {
	return uint64(r.below(1<<31))<<33 ^ uint64(r.below(1<<31))<<11 ^ uint64(r.below(1<<11))
}

// castTable: some labels, each with samples from a time on, below another one.
func (r *rolls) castTable(from, to int64) []merge.Row {
	var l []merge.Row
	for _, name := range []string{"_=1", "a=1", "a=1,b=1", "a=1,b=2", "a=2", "b=1"} {
		if r.below(3) == 0 {
			continue
		}
		x := merge.Row{Labels: set(name)}
		step := 1 + r.below(1+int(to-from)/100)
		for at := from + int64(r.below(int(to-from))); at < to; at += 1 + int64(r.below(step)) {
			v := uint64(r.below(3))
			if r.below(3) == 0 {
				v = r.word()
			}
			x.Samples = append(x.Samples, api.Sample{T: at, V: v})
		}
		l = append(l, x)
	}
	return l
}

// P16.2: there and back, of cast tables.
func TestThereAndBack(t *testing.T) {
	for seed := range 150 {
		r := rolls(seed)
		from := int64(r.below(1000))
		to := from + 1 + int64(r.below(3000))
		f := builds(t, "a cast table", from, to, r.castTable(from, to))
		l, err := Entries(f.Index)
		if err != api.OK || Index(l) != f.Index {
			t.Errorf("Entries: %d", err)
		}
		if t.Failed() {
			t.Fatalf("seed %d", seed)
		}
	}
}

// P16.3: of a byte that is another one, of bytes that are wanting, and of bytes more nothing is read.
func TestAnotherByte(t *testing.T) {
	table := []merge.Row{long("a=1", 121, 0, 10), row("b=1", 7), row("c=1,d=1", 9, 1000)}
	f := builds(t, "the table", 0, 2000, table)
	files := []struct {
		text string
		with func(s string) Files
	}{
		{f.Chunks, func(s string) Files { return Files{f.Meta, s, f.Index} }},
		{f.Index, func(s string) Files { return Files{f.Meta, f.Chunks, s} }},
	}
	for i, c := range files {
		for at := range c.text {
			b := []byte(c.text)
			for x := 1; x < 256; x++ {
				b[at] = c.text[at] ^ byte(x)
				if got, err := c.with(string(b)).Table(); err != api.ErrSum || got != nil {
					t.Fatalf("file %d, byte %d xored with %x: %d", i, at, x, err)
				}
			}
			if got, err := c.with(c.text[:at]).Table(); err != api.ErrSum || got != nil {
				t.Fatalf("file %d, cut at %d: %d", i, at, err)
			}
		}
		if got, err := c.with(c.text + "\x00").Table(); err != api.ErrSum || got != nil {
			t.Errorf("file %d, a byte more: %d", i, err)
		}
	}
}

// P16.3: the records' own sums tell, too, where no meta is asked.
func TestAnotherByteOfRecords(t *testing.T) {
	f := builds(t, "the table", 0, 2000, []merge.Row{long("a=1", 121, 0, 10), row("b=1", 7)})
	l, _ := Entries(f.Index)
	chunks := f.Chunks[:l[0].N]
	for at := range chunks {
		for x := 1; x < 256; x++ {
			b := []byte(chunks)
			b[at] ^= byte(x)
			if got, err := Chunks(string(b)); err == api.OK || got != nil {
				t.Fatalf("Chunks: byte %d xored with %x: %d", at, x, err)
			}
		}
	}
	for at := range f.Index {
		for x := 1; x < 256; x++ {
			b := []byte(f.Index)
			b[at] ^= byte(x)
			if got, err := Entries(string(b)); err == api.OK || got != nil {
				t.Fatalf("Entries: byte %d xored with %x: %d", at, x, err)
			}
		}
	}
}

// P1, K7: of any bytes each call ends; what is read is as it should be.
func TestAnyBytes(t *testing.T) {
	f := builds(t, "the table", 0, 2000, []merge.Row{long("a=1", 121, 0, 10), row("b=1", 7)})
	fields := f.Index[6:]
	r := rolls(1)
	read := 0
	for range 20000 {
		b := []byte(fields)
		for range 1 + r.below(2) {
			at := r.below(len(b) + 1)
			switch r.below(3) {
			case 0:
				b = slices.Insert(b, at, byte(r.below(256)))
			case 1:
				b = slices.Delete(b, at, min(at+r.below(4), len(b)))
			case 2:
				if at < len(b) {
					b[at] ^= byte(r.below(256))
				}
			}
		}
		s := record(5, string(b))
		l, err := Entries(s)
		if err != api.OK && l != nil || err == api.OK && Index(l) != s {
			t.Fatalf("Entries of %x: %v, %d", b, l, err)
		}
		for i, e := range l {
			read++
			if e.N < 1 || e.Min > e.Max || e.Labels.Check() != api.OK || i > 0 && l[i-1].Labels.String() >= e.Labels.String() {
				t.Fatalf("Entries of %x: %v", b, l)
			}
		}
		g := Files{f.Meta, f.Chunks, s}
		g.Meta.Files = filesOf(g)
		if table, err := g.Table(); err != api.OK && table != nil || err == api.OK && !merge.Good(table) {
			t.Fatalf("Table of %x: %d", b, err)
		}
		Chunks(string(b))
		Entries(string(b))
	}
	if read == 0 {
		t.Error("nothing was read")
	}
}

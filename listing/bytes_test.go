package listing

import (
	"strings"
	"testing"

	"barograph/api"
	"barograph/frame"
	"barograph/leb"
	"barograph/meta"
)

// record: the bytes of a record.
func record(kind byte, data string) string {
	return string(frame.Append(nil, frame.Rec{Kind: kind, Data: data}))
}

// numbers: these, one behind the other.
func numbers(l ...uint64) string {
	var b []byte
	for _, v := range l {
		b = leb.Uint(b, v)
	}
	return string(b)
}

// fields: a meta's.
func fields(m meta.Meta) string {
	return string(meta.Put(nil, m))
}

// spelt: what is in a listing's record, by the chapter's words.
func spelt(l Listing) string {
	var b strings.Builder
	b.WriteString(numbers(uint64(l.At), uint64(len(l.Metas))))
	for _, m := range l.Metas {
		b.WriteString(fields(m))
		if at, marked := l.Marks[m.ID]; marked {
			b.WriteString(numbers(uint64(at + 1)))
		} else {
			b.WriteString("\x00")
		}
	}
	return b.String()
}

// decodes: does Decode answer this, zero beside an error?
func decodes(t *testing.T, what, s string, want Listing, wantErr api.Errno) {
	t.Helper()
	l, err := Decode(s)
	if !same(l, want) || err != wantErr {
		t.Errorf("%s: %d metas, %v, %d, not %d", what, len(l.Metas), l.Marks, err, wantErr)
	}
	if err != api.OK && (l.Metas != nil || l.Marks != nil) {
		t.Errorf("%s: not zero beside %d", what, err)
	}
}

// P10.1: a listing's bytes.
func TestBytes(t *testing.T) {
	a, b := block(1, 0, 100), block(2, 100, 200, id(1))
	for _, c := range []struct {
		l    Listing
		want string
	}{
		{Listing{}, "\x00\x00"},
		{New(300, nil, nil), "\xac\x02\x00"},
		{New(9, []meta.Meta{a}, nil), "\x09\x01" + fields(a) + "\x00"},
		{New(9, []meta.Meta{a}, map[string]int{a.ID: 0}), "\x09\x01" + fields(a) + "\x01"},
		{New(9, []meta.Meta{b, a}, map[string]int{b.ID: 299}), "\x09\x02" + fields(a) + "\x00" + fields(b) + "\xac\x02"},
	} {
		if got := Encode(c.l); got != record(3, c.want) {
			t.Errorf("Encode: %x, not %x", got, record(3, c.want))
		}
		decodes(t, "bytes", record(3, c.want), c.l, api.OK)
	}
}

// P10.2: there and back.
func TestThereAndBack(t *testing.T) {
	l := good()
	for x := range uint32(200) {
		l = append(l, castListing(x))
	}
	for i, x := range l {
		s := Encode(x)
		if s != record(3, spelt(x)) {
			t.Errorf("%d: other bytes", i)
		}
		decodes(t, "back", s, x, api.OK)
	}
}

// P10.2: what is decoded may be written to, as what New answers may.
func TestDecodedMarks(t *testing.T) {
	l, err := Decode("\x03" + record(3, "\x05\x00")[1:])
	if err != api.OK {
		t.Fatal(err)
	}
	l.Marks["x"] = 1
	if err := l.Check(); err != api.ErrForm {
		t.Errorf("%d", err)
	}
	decodes(t, "again", record(3, "\x05\x00"), New(5, nil, nil), api.OK)
}

// P10.1, K2: what isn't a listing's bytes, with the error that the chapter names first.
func TestDecodeErrors(t *testing.T) {
	whole := Encode(three())
	in := spelt(three())
	otherSum := []byte(whole)
	otherSum[4] ^= 1
	one, two, three := fields(block(1, 0, 100)), fields(block(2, 100, 200)), fields(block(3, 0, 9, id(3)))
	level10 := block(1, 0, 100)
	level10.Level = 10
	for _, c := range []struct {
		what, s string
		err     api.Errno
	}{
		{"nothing", "", api.ErrEnd},
		{"a record too big", record(3, strings.Repeat("\x00", 1<<20+1)), api.ErrBig},
		{"another sum", string(otherSum), api.ErrSum},
		{"another sum, and bytes behind", string(otherSum) + "x", api.ErrSum},
		{"kind 1", record(1, in), api.ErrForm},
		{"kind 4", record(4, in), api.ErrForm},
		{"kind 1, and bytes wanting", record(1, ""), api.ErrForm},
		{"a meta", meta.Encode(block(1, 0, 100)), api.ErrForm},
		{"a mark", meta.EncodeMark(id(1), 5), api.ErrForm},
		{"a byte behind", whole + "\x00", api.ErrForm},
		{"two listings", whole + whole, api.ErrForm},
		{"a byte behind, and bytes wanting", record(3, "") + "x", api.ErrForm},
		{"no bytes", record(3, ""), api.ErrEnd},
		{"no number", record(3, "\x09"), api.ErrEnd},
		{"no block", record(3, "\x09\x01"), api.ErrEnd},
		{"no mark", record(3, "\x09\x01"+one), api.ErrEnd},
		{"no second block", record(3, "\x09\x02"+one+"\x00"), api.ErrEnd},
		{"5000 blocks that aren't there", record(3, numbers(9, 5000)), api.ErrEnd},
		{"5001 blocks", record(3, numbers(9, 5001)), api.ErrBig},
		{"a tick of 2^40", record(3, numbers(1<<40)), api.ErrEnd},
		{"a tick above 2^40", record(3, numbers(1<<40+1, 0)), api.ErrBig},
		{"a tick below 0", Encode(Listing{At: -1}), api.ErrBig},
		{"a tick in another way", record(3, "\x89\x00\x00"), api.ErrForm},
		{"a number in another way", record(3, "\x09\x81\x00"+one+"\x00"), api.ErrForm},
		{"a mark in another way", record(3, "\x09\x01"+one+"\x81\x00"), api.ErrForm},
		{"a mark above 2^40 + 1", record(3, "\x09\x01"+one+numbers(1<<40+2)), api.ErrBig},
		{"a second mark above 2^40 + 1", record(3, "\x09\x02"+one+"\x05"+two+numbers(1<<40+2)), api.ErrBig},
		{"a level of 10", record(3, "\x09\x01"+fields(level10)+"\x00"), api.ErrBig},
		{"a meta that may not be", record(3, "\x09\x01"+three+"\x00"), api.ErrForm},
		{"a meta that may not be, and a mark too big", record(3, "\x09\x01"+three+numbers(1<<40+2)), api.ErrForm},
		{"a mark too big, and a meta that may not be", record(3, "\x09\x02"+one+numbers(1<<40+2)+three), api.ErrBig},
		{"a byte behind inside", record(3, in+"\x00"), api.ErrForm},
		{"blocks that fall", record(3, "\x09\x02"+two+"\x00"+one+"\x00"), api.ErrForm},
		{"a block twice", record(3, "\x09\x02"+one+"\x00"+one+"\x00"), api.ErrForm},
		{"a block twice, once marked", record(3, "\x09\x02"+one+"\x05"+one+"\x00"), api.ErrForm},
		{"blocks that fall, and bytes wanting", record(3, "\x09\x02"+two+"\x00"+one), api.ErrEnd},
		{"blocks that fall, and a mark too big", record(3, "\x09\x02"+two+"\x00"+one+numbers(1<<41)), api.ErrBig},
	} {
		decodes(t, c.what, c.s, Listing{}, c.err)
	}
	decodes(t, "a mark of 2^40", record(3, "\x09\x01"+one+numbers(1<<40+1)), New(9, []meta.Meta{block(1, 0, 100)}, map[string]int{id(1): 1 << 40}), api.OK)
}

// P10.1: what is cut off anywhere wants bytes.
func TestCut(t *testing.T) {
	whole, in := Encode(three()), spelt(three())
	for i := range len(whole) {
		decodes(t, "cut", whole[:i], Listing{}, api.ErrEnd)
	}
	for i := range len(in) {
		decodes(t, "cut inside", record(3, in[:i]), Listing{}, api.ErrEnd)
	}
}

// P10.2, layer 2: a byte that is another one is told.
func TestAnotherByte(t *testing.T) {
	for _, l := range []Listing{New(300, nil, nil), New(9, []meta.Meta{block(1, 0, 1)}, nil), three()} {
		whole := Encode(l)
		for at := range whole {
			for x := 1; x < 256; x++ {
				b := []byte(whole)
				b[at] ^= byte(x)
				if got, err := Decode(string(b)); err == api.OK || !same(got, Listing{}) {
					t.Errorf("byte %d xored with %x: %d", at, x, err)
				}
			}
		}
	}
}

// P10.2: one spelling: bytes that are read are those that are written; here the sum agrees with any byte that is another one.
func TestOneSpelling(t *testing.T) {
	in := spelt(three())
	read := 0
	for at := range in {
		for x := 1; x < 256; x++ {
			b := []byte(in)
			b[at] ^= byte(x)
			l, err := Decode(record(3, string(b)))
			if err != api.OK {
				decodes(t, "another byte", record(3, string(b)), Listing{}, err)
				continue
			}
			read++
			if l.Check() != api.OK || Encode(l) != record(3, string(b)) || same(l, three()) {
				t.Errorf("byte %d xored with %x: %+v", at, x, l)
			}
		}
	}
	if read == 0 {
		t.Error("nothing was read")
	}
}

// P10.1: a listing whose record has more bytes than one may have (the chapter says nothing of it) is written, and told.
func TestBeyondARecord(t *testing.T) {
	var sources []string
	for n := range 50 {
		sources = append(sources, id(9000+n))
	}
	var metas []meta.Meta
	for n := range 2000 {
		metas = append(metas, block(n, 0, 1, sources...))
	}
	l := New(9, metas, nil)
	if err := l.Check(); err != api.OK {
		t.Errorf("Check: %d", err)
	}
	decodes(t, "beyond", Encode(l), Listing{}, api.ErrBig)
}

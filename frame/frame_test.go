package frame

import (
	"hash/crc32"
	"slices"
	"strings"
	"testing"

	"barograph/api"
)

// records: kinds and lengths at their edges.
func records() []Rec {
	return []Rec{
		{1, "abc"}, {0, ""}, {255, "\x00"}, {2, ""}, {128, strings.Repeat("\xff", 127)},
		{3, strings.Repeat("\x80", 128)}, {7, string(make([]byte, 300))}, {1, "abc"},
	}
}

// joined: the records' bytes, and where each ends.
func joined(l []Rec) (string, []int) {
	var b []byte
	var ends []int
	for _, r := range l {
		b = Append(b, r)
		ends = append(ends, len(b))
	}
	return string(b), ends
}

// P2.1: the sum that is known of some bytes, and what the library says of others.
func TestSum(t *testing.T) {
	for _, c := range []struct {
		s    string
		want uint32
	}{
		{"", 0},
		{"123456789", 0xe3069283},
		{strings.Repeat("\x00", 32), 0x8a9136aa},
		{strings.Repeat("\xff", 32), 0x62a8ab43},
	} {
		if got := Sum(c.s); got != c.want {
			t.Errorf("Sum %q: %x, not %x", c.s, got, c.want)
		}
	}
	table := crc32.MakeTable(crc32.Castagnoli)
	for i := range 256 {
		s := string([]byte{byte(i), byte(i * 7), byte(255 - i)})
		for n := range len(s) + 1 {
			if got, want := Sum(s[:n]), crc32.Checksum([]byte(s[:n]), table); got != want {
				t.Errorf("Sum %x: %x, not %x", s[:n], got, want)
			}
		}
	}
}

// P2.1: a sum goes on, wherever it was left.
func TestMore(t *testing.T) {
	s := "what goes before, and what comes behind\x00\xff"
	for i := range len(s) + 1 {
		if got := More(Sum(s[:i]), s[i:]); got != Sum(s) {
			t.Errorf("at %d: %x, not %x", i, got, Sum(s))
		}
		if got := More(Sum(s[:i]), ""); got != Sum(s[:i]) {
			t.Errorf("of nothing more at %d: %x", i, got)
		}
	}
}

// P2.1: a record's bytes, as the chapter's example says them.
func TestAppend(t *testing.T) {
	for _, c := range []struct {
		r    Rec
		head string
	}{
		{Rec{1, "a"}, "\x01\x01"},
		{Rec{0, ""}, "\x00\x00"},
		{Rec{255, strings.Repeat("x", 300)}, "\xff\xac\x02"},
	} {
		sum := Sum(string([]byte{c.r.Kind}) + c.r.Data)
		want := c.head + string([]byte{byte(sum), byte(sum >> 8), byte(sum >> 16), byte(sum >> 24)}) + c.r.Data
		for _, ahead := range []string{"", "ahead"} {
			if got := string(Append([]byte(ahead), c.r)); got != ahead+want {
				t.Errorf("of kind %d behind %q: %x", c.r.Kind, ahead, got)
			}
		}
	}
}

// P2.2: each record is read as it was written, and what is behind it is left.
func TestThereAndBack(t *testing.T) {
	for _, r := range append(records(), Rec{9, strings.Repeat("m", Max)}) {
		for _, rest := range []string{"", "\x01", "rest"} {
			got, left, err := Next(string(Append(nil, r)) + rest)
			if got != r || left != rest || err != api.OK {
				t.Errorf("of kind %d, %d bytes: %d, %d bytes, %q, %d", r.Kind, len(r.Data), got.Kind, len(got.Data), left, err)
			}
		}
	}
	l := records()
	s, ends := joined(l)
	if got, n := All(s); !slices.Equal(got, l) || n != ends[len(ends)-1] {
		t.Errorf("All: %d records, %d bytes", len(got), n)
	}
	if got, n := All(""); len(got) != 0 || n != 0 {
		t.Errorf("All of nothing: %d records, %d bytes", len(got), n)
	}
}

// P2.2: what is cut off anywhere is read to the last record that is whole.
func TestCut(t *testing.T) {
	l := records()
	s, ends := joined(l)
	for cut := range len(s) + 1 {
		whole, from := 0, 0
		for whole < len(l) && ends[whole] <= cut {
			from = ends[whole]
			whole++
		}
		if got, n := All(s[:cut]); !slices.Equal(got, l[:whole]) || n != from {
			t.Errorf("cut at %d: %d records, %d bytes, not %d, %d", cut, len(got), n, whole, from)
		}
		if r, left, err := Next(s[from:cut]); err != api.ErrEnd || r != (Rec{}) || left != "" {
			t.Errorf("Next of a piece cut at %d: %d", cut, err)
		}
	}
}

// P2.3: where a byte of a record's kind, sum or data is another one, those ahead are read, and no more.
func TestAnotherByte(t *testing.T) {
	l := records()
	s, ends := joined(l)
	from := 0
	for i, r := range l {
		sum := ends[i] - len(r.Data) - 4
		places := []int{from}
		for at := sum; at < ends[i]; at++ {
			places = append(places, at)
		}
		for _, at := range places {
			for _, x := range []byte{1, 2, 0x10, 0x80, 0xff} {
				b := []byte(s)
				b[at] ^= x
				if got, n := All(string(b)); !slices.Equal(got, l[:i]) || n != from {
					t.Errorf("byte %d xored with %x: %d records, %d bytes", at, x, len(got), n)
				}
				if r, left, err := Next(string(b[from:])); err != api.ErrSum || r != (Rec{}) || left != "" {
					t.Errorf("Next, byte %d xored with %x: %d", at, x, err)
				}
			}
		}
		from = ends[i]
	}
}

// P2.1, K2, K6: the error that the chapter names first, beside zero and nothing.
func TestNextErrors(t *testing.T) {
	whole := string(Append(nil, Rec{1, "abc"}))
	for _, c := range []struct {
		s    string
		want api.Errno
	}{
		{"", api.ErrEnd},
		{"\x01", api.ErrEnd},
		{"\x01\x80", api.ErrEnd},
		{"\x01\x80\x00", api.ErrForm},
		{"\x01\x83\x00" + whole[2:], api.ErrForm},
		{"\x01\xff\xff\xff\xff\xff\xff\xff\xff\xff\x02", api.ErrForm},
		{"\x01\xff\xff\xff\xff\xff\xff\xff\xff\xff\x01", api.ErrBig},
		{"\x01\x80\x80\x40", api.ErrEnd}, // 2^20, and nothing behind it
		{"\x01\x81\x80\x40", api.ErrBig}, // one more
		{"\x01\x00xxx", api.ErrEnd},
		{"\x01\x03xxxxab", api.ErrEnd}, // neither whole nor right
		{"\x01\x03xxxxabc", api.ErrSum},
		{string(Append(nil, Rec{1, strings.Repeat("x", Max+1)})), api.ErrBig},
	} {
		r, left, err := Next(c.s)
		if err != c.want || r != (Rec{}) || left != "" {
			t.Errorf("Next %.20x: %d, %q, %d, not %d", c.s, r.Kind, left, err, c.want)
		}
		if l, n := All(whole + c.s); len(l) != 1 || n != len(whole) {
			t.Errorf("All ahead of %.20x: %d records, %d bytes", c.s, len(l), n)
		}
	}
}

// K1: nil and empty bytes are the same.
func TestNilIsEmpty(t *testing.T) {
	for _, r := range records() {
		if string(Append(nil, r)) != string(Append([]byte{}, r)) {
			t.Errorf("of kind %d they differ", r.Kind)
		}
	}
}

// K3: Append changes neither b nor its spare room, and later calls don't change what it answered.
func TestAppendIsNew(t *testing.T) {
	room := []byte("ahead" + strings.Repeat(".", 50))
	b := room[:5]
	first := Append(b, Rec{1, "first"})
	was := string(first)
	second := Append(b, Rec{2, "other"})
	third := Append(first, Rec{3, "third"})
	_ = Append(first, Rec{4, "again"})
	if string(room) != "ahead"+strings.Repeat(".", 50) {
		t.Errorf("b and its room: %q", room)
	}
	if string(first) != was || string(third[:len(was)]) != was {
		t.Errorf("%x has become %x", was, first)
	}
	if r, _, err := Next(string(third[len(was):])); r != (Rec{3, "third"}) || err != api.OK {
		t.Errorf("the third: %d, %q, %d", r.Kind, r.Data, err)
	}
	second[0] = 'X'
	if string(b) != "ahead" {
		t.Errorf("b: %q", b)
	}
}

// K3, K4: the same call is answered alike; what All answered is the caller's own.
func TestAlike(t *testing.T) {
	l := records()
	s, _ := joined(l)
	got, n := All(s + "\x01")
	got[0] = Rec{}
	again, m := All(s + "\x01")
	if !slices.Equal(again, l) || n != m {
		t.Errorf("All: %d records, %d bytes, then %d bytes", len(again), n, m)
	}
	for _, r := range l {
		if string(Append(nil, r)) != string(Append(nil, r)) || Sum(r.Data) != Sum(r.Data) {
			t.Errorf("of kind %d they differ", r.Kind)
		}
	}
}

// P1, P2, K7: of any bytes each call ends, and what is read is written with the same bytes.
func TestAnyBytes(t *testing.T) {
	x := uint32(1)
	for range 20000 {
		b := make([]byte, x>>8%24)
		for i := range b {
			x = x*1664525 + 1013904223
			b[i] = byte(x >> 24)
			if x>>20&3 == 0 {
				b[i] &= 3
			}
		}
		x = x*1664525 + 1013904223
		l, n := All(string(b))
		if s, _ := joined(l); n > len(b) || s != string(b[:n]) {
			t.Errorf("All %x: %d bytes", b, n)
		}
		if r, left, err := Next(string(b)); err != api.OK && (r != Rec{} || left != "") {
			t.Errorf("Next %x: %d", b, err)
		}
	}
}

package meta

import (
	"math"
	"slices"
	"strings"
	"testing"

	"barograph/api"
	"barograph/frame"
	"barograph/leb"
)

// said: a plain meta's fields, by the chapter's words.
const said = "\x100000001100000009" + "\x64" + "\xc8\x01" + "\x02" + "\x02" + "\x07" +
	"\x06chunks" + "\xac\x02" + "\x84\x86\x88\x08" +
	"\x05index" + "\x05" + "\x06" +
	"\x02" + "\x100000001100000001" + "\x100000001100000002"

// record: the bytes of a record.
func record(kind byte, data string) string {
	return string(frame.Append(nil, frame.Rec{Kind: kind, Data: data}))
}

// numbers: these, one behind the other.
func numbers(l ...uint64) string {
	var b []byte
	for _, v := range l {
		b = leb.Uint(b, v)
	}
	return string(b)
}

// text: a text as it is written.
func text(s string) string {
	return string(leb.Text(nil, s))
}

// spelt: a meta's fields, by the chapter's words.
func spelt(m Meta) string {
	s := text(m.ID) + numbers(uint64(m.Min), uint64(m.Max), uint64(m.Level), uint64(m.Series), uint64(m.Samples))
	for _, f := range m.Files {
		s += text(f.Name) + numbers(uint64(f.Size), uint64(f.Sum))
	}
	s += numbers(uint64(len(m.Sources)))
	for _, id := range m.Sources {
		s += text(id)
	}
	return s
}

// takes: does Take answer this, zero and nothing beside an error?
func takes(t *testing.T, what, s string, want Meta, wantRest string, wantErr api.Errno) {
	t.Helper()
	m, rest, err := Take(s)
	if !same(m, want) || rest != wantRest || err != wantErr {
		t.Errorf("%s: Take: %+v, %q, %d, not %d", what, m, rest, err, wantErr)
	}
}

// decodes: does Decode answer this, zero beside an error?
func decodes(t *testing.T, what, s string, want Meta, wantErr api.Errno) {
	t.Helper()
	if m, err := Decode(s); !same(m, want) || err != wantErr {
		t.Errorf("%s: Decode: %+v, %d, not %d", what, m, err, wantErr)
	}
}

// P9.1: a meta's bytes.
func TestBytes(t *testing.T) {
	m := plain()
	if got := string(Put(nil, m)); got != said {
		t.Errorf("Put: %x, not %x", got, said)
	}
	if got := Encode(m); got != record(1, said) {
		t.Errorf("Encode: %x, not %x", got, record(1, said))
	}
	takes(t, "plain", said, m, "", api.OK)
	decodes(t, "plain", record(1, said), m, api.OK)
}

// P9.1, P9.2: there and back, whatever is ahead and behind.
func TestThereAndBack(t *testing.T) {
	for i, m := range good() {
		what := "good " + string(rune('a'+i))
		for _, ahead := range []string{"", "ahead", "\x00"} {
			if got := string(Put([]byte(ahead), m)); got != ahead+spelt(m) {
				t.Errorf("%s: Put behind %q: %x", what, ahead, got)
			}
		}
		if got := Encode(m); got != record(1, spelt(m)) {
			t.Errorf("%s: Encode: %x", what, got)
		}
		for _, rest := range []string{"", "\x00", "rest", spelt(m)} {
			takes(t, what, string(Put(nil, m))+rest, m, rest, api.OK)
		}
		decodes(t, what, Encode(m), m, api.OK)
	}
}

// P9.1, K7: metas with an error have no bytes that are read without one.
func TestBadMetas(t *testing.T) {
	for i, m := range bad() {
		if got, err := Decode(Encode(m)); err == api.OK || !same(got, Meta{}) {
			t.Errorf("bad %d: Decode: %+v, %d", i, got, err)
		}
	}
}

// K1, K3: Put answers new memory, of nil and of empty bytes the same; b's spare room isn't written.
func TestPutIsNew(t *testing.T) {
	m := plain()
	if string(Put(nil, m)) != string(Put([]byte{}, m)) {
		t.Error("nil and empty differ")
	}
	room := []byte("ahead" + strings.Repeat(".", 1000))
	b := room[:5]
	first := Put(b, m)
	second := Put(b, bent(func(m *Meta) { m.ID = id(8) }))
	Put(first, m)
	if string(room) != "ahead"+strings.Repeat(".", 1000) || string(first) != "ahead"+said {
		t.Errorf("%q, %q", room, first)
	}
	first[0], second[1] = 'X', 'Y'
	if string(b) != "ahead" || string(second) == string(first) {
		t.Errorf("%q, %q, %q", b, first, second)
	}
}

// K3: what was answered is the caller's own.
func TestTakeIsNew(t *testing.T) {
	a, _, _ := Take(said)
	b, _ := Decode(record(1, said))
	a.Files[0], a.Sources[0] = File{}, ""
	b.Files[1], b.Sources[1] = File{}, ""
	takes(t, "again", said, plain(), "", api.OK)
	decodes(t, "again", record(1, said), plain(), api.OK)
}

// P9.1, K2: what is cut off anywhere wants bytes.
func TestCut(t *testing.T) {
	for i := range len(said) {
		takes(t, "cut", said[:i], Meta{}, "", api.ErrEnd)
		decodes(t, "cut inside", record(1, said[:i]), Meta{}, api.ErrEnd)
	}
	whole := record(1, said)
	for i := range len(whole) {
		decodes(t, "cut", whole[:i], Meta{}, api.ErrEnd)
	}
}

// P9.1: the bounds of what stands in the bytes: one more is ErrBig.
func TestBounds(t *testing.T) {
	m := plain()
	name, files, sources := text(m.ID), spelt(m)[17+1+2+3:], numbers(0)
	chunks, index := text("chunks")+numbers(300, 7), text("index")+numbers(5, 6)
	head := name + numbers(100, 200, 2, 2, 7)
	for _, c := range []struct {
		what, s string
		err     api.Errno
	}{
		{"a name of 17 bytes", text(id(9)+"0") + said[17:], api.ErrBig},
		{"a name of 17 bytes, and no more", numbers(17), api.ErrBig},
		{"a name of 15 bytes", text(id(9)[1:]) + said[17:], api.ErrForm},
		{"no name", text("") + said[17:], api.ErrForm},
		{"a Min of 2^40", name + numbers(1<<40, 1<<40, 2, 2, 7) + files, api.ErrForm},
		{"a Min above 2^40", name + numbers(1<<40+1, 200, 2, 2, 7) + files, api.ErrBig},
		{"a Max above 2^40", name + numbers(100, 1<<40+1, 2, 2, 7) + files, api.ErrBig},
		{"a Max not above Min", name + numbers(100, 100, 2, 2, 7) + files, api.ErrForm},
		{"a Min below 0", name + numbers(math.MaxUint64, 200, 2, 2, 7) + files, api.ErrBig},
		{"a level of 0", name + numbers(100, 200, 0, 2, 7) + files, api.ErrForm},
		{"a level of 10", name + numbers(100, 200, 10, 2, 7) + files, api.ErrBig},
		{"more series than samples", name + numbers(100, 200, 2, 8, 7) + files, api.ErrForm},
		{"2^30 series", name + numbers(100, 200, 2, 1<<30, 7) + files, api.ErrForm},
		{"series above 2^30", name + numbers(100, 200, 2, 1<<30+1, 7) + files, api.ErrBig},
		{"samples above 2^30", name + numbers(100, 200, 2, 2, 1<<30+1) + files, api.ErrBig},
		{"a file's name of 40 bytes", head + text(strings.Repeat("c", 40)) + numbers(0, 0) + index + sources, api.ErrForm},
		{"a file's name of 41 bytes", head + text(strings.Repeat("c", 41)) + numbers(0, 0) + index + sources, api.ErrBig},
		{"a second file's name of 41 bytes", head + chunks + numbers(41), api.ErrBig},
		{"a size of 2^20", head + text("chunkz") + numbers(1<<20, 0) + index + sources, api.ErrForm},
		{"a size above 2^20", head + text("chunks") + numbers(1<<20+1, 0) + index + sources, api.ErrBig},
		{"a second size above 2^20", head + chunks + text("index") + numbers(1<<20+1, 0) + sources, api.ErrBig},
		{"a sum of 2^32 - 1", head + text("chunkz") + numbers(0, 1<<32-1) + index + sources, api.ErrForm},
		{"a sum above 2^32 - 1", head + text("chunks") + numbers(0, 1<<32) + index + sources, api.ErrBig},
		{"a second sum above 2^32 - 1", head + chunks + text("index") + numbers(0, 1<<32) + sources, api.ErrBig},
		{"files in another order", head + index + chunks + sources, api.ErrForm},
		{"51 sources", head + chunks + index + numbers(51), api.ErrBig},
		{"50 sources that aren't there", head + chunks + index + numbers(50), api.ErrEnd},
		{"a source of 17 bytes", head + chunks + index + numbers(1) + text(id(1)+"0"), api.ErrBig},
		{"a source of 15 bytes", head + chunks + index + numbers(1) + text(id(1)[1:]), api.ErrForm},
		{"sources that fall", head + chunks + index + numbers(2) + text(id(2)) + text(id(1)), api.ErrForm},
		{"itself", head + chunks + index + numbers(1) + text(id(9)), api.ErrForm},
		{"a number in another way", name + "\xe4\x00" + said[18:], api.ErrForm},
		{"a text's number in another way", "\x90\x00" + said[1:], api.ErrForm},
	} {
		takes(t, c.what, c.s, Meta{}, "", c.err)
		decodes(t, c.what, record(1, c.s), Meta{}, c.err)
	}
}

// K2: of several errors layer 1's first one, then Check's, then that bytes are left.
func TestFirstError(t *testing.T) {
	m := plain()
	m.ID = "0000001100000000i"[1:]
	if m.Check() != api.ErrForm {
		t.Fatal("the test's own name is wrong")
	}
	wrong := spelt(m)
	for _, c := range []struct {
		what, s string
		err     api.Errno
	}{
		{"no name, and bytes wanting", wrong[:len(wrong)-1], api.ErrEnd},
		{"no name, and a level of 10", text(m.ID) + numbers(100, 200, 10), api.ErrBig},
		{"times that fall, and a number in another way", text(id(9)) + numbers(200, 100) + "\x82\x00", api.ErrForm},
		{"a Min above 2^40, and a number in another way", text(id(9)) + numbers(1<<41) + "\x82\x00", api.ErrBig},
		{"a number in another way, and a level of 10", text(id(9)) + "\x82\x00" + numbers(200, 10), api.ErrForm},
		{"no name, and no more", text(m.ID), api.ErrEnd},
		{"times that fall, and no more", text(id(9)) + numbers(200, 100), api.ErrEnd},
	} {
		takes(t, c.what, c.s, Meta{}, "", c.err)
		decodes(t, c.what, record(1, c.s), Meta{}, c.err)
		decodes(t, c.what+", of another kind", record(2, c.s), Meta{}, api.ErrForm)
		decodes(t, c.what+", and bytes behind the record", record(1, c.s)+"x", Meta{}, api.ErrForm)
	}
	for i, m := range bad() {
		_, _, err := Take(spelt(m))
		_, err1 := Decode(record(1, spelt(m)))
		if err == api.OK {
			continue // what is read is another one, with bytes behind it
		}
		if err1 != err {
			t.Errorf("bad %d: Take: %d, Decode: %d", i, err, err1)
		}
	}
}

// P9.1: Decode's errors of the record, and of bytes that are left.
func TestDecodeErrors(t *testing.T) {
	whole := record(1, said)
	otherSum := []byte(whole)
	otherSum[3] ^= 1
	for _, c := range []struct {
		what, s string
		err     api.Errno
	}{
		{"nothing", "", api.ErrEnd},
		{"a record too big", record(1, strings.Repeat("x", 1<<20+1)), api.ErrBig},
		{"a record's size in another way", "\x01\x80\x00", api.ErrForm},
		{"another sum", string(otherSum), api.ErrSum},
		{"another sum, and bytes behind", string(otherSum) + "x", api.ErrSum},
		{"another sum, of another kind", "\x02" + string(otherSum[1:]), api.ErrSum},
		{"kind 0", record(0, said), api.ErrForm},
		{"kind 2", record(2, said), api.ErrForm},
		{"kind 255", record(255, said), api.ErrForm},
		{"a mark", EncodeMark(id(9), 7), api.ErrForm},
		{"a byte behind", whole + "\x00", api.ErrForm},
		{"two metas", whole + whole, api.ErrForm},
		{"a byte behind inside", record(1, said+"\x00"), api.ErrForm},
		{"two metas inside", record(1, said+said), api.ErrForm},
		{"no fields", record(1, ""), api.ErrEnd},
		{"fields alone", said, api.ErrSum},
	} {
		decodes(t, c.what, c.s, Meta{}, c.err)
	}
}

// P9.3: each byte, at each place, that is another one is told.
func TestAnotherByte(t *testing.T) {
	big := bent(func(m *Meta) { m.Sources = ids(10, 14) }) // its record's size goes in two bytes
	short := bent(func(m *Meta) { m.Sources = nil })
	for i, s := range []string{Encode(plain()), Encode(big), Encode(short), EncodeMark(id(9), 7), EncodeMark(id(9), 1<<40)} {
		for at := range s {
			for x := 1; x < 256; x++ {
				b := []byte(s)
				b[at] ^= byte(x)
				m, err := Decode(string(b))
				if err == api.OK || !same(m, Meta{}) {
					t.Errorf("%d: byte %d xored with %x: Decode: %+v, %d", i, at, x, m, err)
				}
				a, n, err := DecodeMark(string(b))
				if err == api.OK || a != "" || n != 0 {
					t.Errorf("%d: byte %d xored with %x: DecodeMark: %q, %d, %d", i, at, x, a, n, err)
				}
			}
		}
	}
}

// P9.2: one spelling: bytes that are read are those that are written; here the sum agrees with any byte that is another one.
func TestOneSpelling(t *testing.T) {
	for i, m := range good() {
		s := spelt(m)
		for at := range s {
			for _, x := range []byte{1, 2, 4, 8, 16, 32, 64, 128, 255} {
				b := []byte(s)
				b[at] ^= x
				got, rest, err := Take(string(b))
				if err != api.OK {
					takes(t, "another byte", string(b), Meta{}, "", err)
					continue
				}
				if got.Check() != api.OK || string(Put(nil, got))+rest != string(b) {
					t.Errorf("good %d, byte %d xored with %x: %+v, %q", i, at, x, got, rest)
				}
				if d, err := Decode(record(1, string(b))); (err == api.OK) != (rest == "") || rest == "" && (Encode(d) != record(1, string(b)) || !same(d, got)) {
					t.Errorf("good %d, byte %d xored with %x: Decode: %+v, %d", i, at, x, d, err)
				}
			}
		}
	}
}

// P9.1, P9.2: a mark's bytes, as the chapter's example says them, and back.
func TestMark(t *testing.T) {
	s := EncodeMark("0000001100000001", 7)
	if want := record(2, "\x100000001100000001\x07"); s != want || len(s) != 24 || s[0] != 2 {
		t.Errorf("%x, not %x", s, want)
	}
	for _, name := range []string{id(0), id(1), "zzzzzzzzzzzzzzzz", "0000000000000000"} {
		for _, at := range []int{0, 1, 7, 127, 128, 300, 1<<40 - 1, 1 << 40} {
			s := EncodeMark(name, at)
			if want := record(2, text(name)+numbers(uint64(at))); s != want {
				t.Errorf("%q, %d: %x, not %x", name, at, s, want)
			}
			if a, n, err := DecodeMark(s); a != name || n != at || err != api.OK {
				t.Errorf("%q, %d: %q, %d, %d", name, at, a, n, err)
			}
		}
		for _, at := range []int{-1, -7, math.MinInt} {
			if EncodeMark(name, at) != EncodeMark(name, 0) {
				t.Errorf("%q, %d isn't that of 0", name, at)
			}
		}
	}
}

// P9.1, K2: what is no mark.
func TestMarkErrors(t *testing.T) {
	whole := EncodeMark(id(3), 77)
	otherSum := []byte(whole)
	otherSum[2] ^= 0x40
	fields := text(id(3)) + numbers(77)
	for _, c := range []struct {
		what, s string
		err     api.Errno
	}{
		{"nothing", "", api.ErrEnd},
		{"cut", whole[:10], api.ErrEnd},
		{"a record too big", record(2, strings.Repeat("x", 1<<20+1)), api.ErrBig},
		{"another sum", string(otherSum), api.ErrSum},
		{"another sum, and bytes behind", string(otherSum) + "x", api.ErrSum},
		{"kind 1", record(1, fields), api.ErrForm},
		{"kind 3", record(3, fields), api.ErrForm},
		{"a meta", Encode(plain()), api.ErrForm},
		{"a byte behind", whole + "x", api.ErrForm},
		{"two marks", whole + whole, api.ErrForm},
		{"kind 1, and bytes wanting", record(1, fields[:3]), api.ErrForm},
		{"no fields", record(2, ""), api.ErrEnd},
		{"no tick", record(2, text(id(3))), api.ErrEnd},
		{"a tick that doesn't end", record(2, text(id(3))+"\x80"), api.ErrEnd},
		{"a tick in another way", record(2, text(id(3))+"\xcd\x00"), api.ErrForm},
		{"a tick above 2^40", record(2, text(id(3))+numbers(1<<40+1)), api.ErrBig},
		{"a tick far above 2^40", EncodeMark(id(3), math.MaxInt), api.ErrBig},
		{"a name of 17 bytes", EncodeMark(id(3)+"0", 77), api.ErrBig},
		{"a name of 15 bytes", EncodeMark(id(3)[1:], 77), api.ErrForm},
		{"no name", EncodeMark("", 77), api.ErrForm},
		{"no block's name", EncodeMark("000000110000000i", 77), api.ErrForm},
		{"no block's name, and a tick above 2^40", EncodeMark("000000110000000i", 1<<40+1), api.ErrBig},
		{"no block's name, and no tick", record(2, text("000000110000000i")), api.ErrEnd},
		{"a byte behind inside", record(2, fields+"\x00"), api.ErrForm},
		{"a name beyond a record", EncodeMark(strings.Repeat("0", 1<<20), 1), api.ErrBig},
	} {
		if a, n, err := DecodeMark(c.s); a != "" || n != 0 || err != c.err {
			t.Errorf("%s: %q, %d, %d, not %d", c.what, a, n, err, c.err)
		}
	}
	for i := range len(whole) {
		if a, n, err := DecodeMark(whole[:i]); a != "" || n != 0 || err != api.ErrEnd {
			t.Errorf("cut at %d: %q, %d, %d", i, a, n, err)
		}
	}
}

// P1, K7: of any bytes each call ends; what is read is written with the same bytes.
func TestAnyBytes(t *testing.T) {
	x := uint32(1)
	next := func() int {
		x = x*1664525 + 1013904223
		return int(x >> 8)
	}
	wholes := []string{said, spelt(bent(func(m *Meta) { m.Sources = ids(10, 60) })), text(id(3)) + numbers(77), ""}
	for range 20000 {
		b := []byte(wholes[next()%len(wholes)])
		for range 1 + next()%3 {
			at := next() % (len(b) + 1)
			switch next() % 3 {
			case 0:
				b = slices.Insert(b, at, byte(next()))
			case 1:
				b = slices.Delete(b, at, min(at+next()%4, len(b)))
			case 2:
				b = append(b[:at:at], wholes[next()%len(wholes)]...)
			}
		}
		s := string(b)
		if m, rest, err := Take(s); err == api.OK && string(Put(nil, m))+rest != s || err != api.OK && (rest != "" || !same(m, Meta{})) {
			t.Errorf("Take %x: %+v, %q, %d", s, m, rest, err)
		}
		if m, err := Decode(record(1, s)); err == api.OK && Encode(m) != record(1, s) || err != api.OK && !same(m, Meta{}) {
			t.Errorf("Decode of %x: %+v, %d", s, m, err)
		}
		if a, n, err := DecodeMark(record(2, s)); err == api.OK && EncodeMark(a, n) != record(2, s) || err != api.OK && (a != "" || n != 0) {
			t.Errorf("DecodeMark of %x: %q, %d, %d", s, a, n, err)
		}
		Decode(s)
		DecodeMark(s)
	}
}

package ident

import (
	"math"
	"slices"
	"strconv"
	"strings"
	"testing"

	"barograph/api"
)

const (
	bound    = 1 << 40 // what ticks and numbers are below
	alphabet = "0123456789abcdefghjkmnpqrstvwxyz"
)

// numbers: those at each digit's edges, and some between, rising.
func numbers() []int {
	l := []int{0, 33, 1000, 123456789, 987654321012, bound - 2, bound - 1}
	for i := 0; i < 40; i += 5 {
		l = append(l, 1<<i-1, 1<<i, 1<<i+1, 31<<i)
	}
	for d := range 32 {
		l = append(l, d, d<<35|d<<15, (31-d)<<20|d)
	}
	slices.Sort(l)
	return slices.Compact(l)
}

// half8: a number's eight digits, by those that strconv has for the base 32.
func half8(v int) string {
	s := strconv.FormatInt(int64(v), 32)
	s = strings.Repeat("0", 8-len(s)) + s
	return strings.Map(func(r rune) rune {
		return rune(alphabet[strings.IndexRune("0123456789abcdefghijklmnopqrstuv", r)])
	}, s)
}

// P8.1: the words that the chapter gives.
func TestWords(t *testing.T) {
	if Len != 16 || Chunks != "chunks" || Index != "index" || Meta != "meta" || Mark != "mark" {
		t.Errorf("%d, %q, %q, %q, %q", Len, Chunks, Index, Meta, Mark)
	}
}

// P8.1: the chapter's example, and other names as they are written.
func TestMake(t *testing.T) {
	for _, c := range []struct {
		tick, seq int
		want      string
	}{
		{33, 1, "0000001100000001"},
		{0, 0, "0000000000000000"},
		{1, 33, "0000000100000011"},
		{31, 32, "0000000z00000010"},
		{17, 18, "0000000h0000000j"},
		{19, 20, "0000000k0000000m"},
		{21, 22, "0000000n0000000p"},
		{26, 27, "0000000t0000000v"},
		{1 << 35, 1 << 30, "1000000001000000"},
		{bound - 1, 0, "zzzzzzzz00000000"},
		{0, bound - 1, "00000000zzzzzzzz"},
		{bound - 1, bound - 1, "zzzzzzzzzzzzzzzz"},
	} {
		if id, err := Make(c.tick, c.seq); id != c.want || err != api.OK {
			t.Errorf("Make %d, %d: %q, %d", c.tick, c.seq, id, err)
		}
	}
	for d := range 32 {
		want := "0000000" + alphabet[d:d+1] + "0000000" + alphabet[31-d:32-d]
		if id, err := Make(d, 31-d); id != want || err != api.OK {
			t.Errorf("Make %d, %d: %q, %d", d, 31-d, id, err)
		}
	}
}

// P8.1, K2: a tick or a number that isn't 0 to 2^40 - 1.
func TestMakeErrors(t *testing.T) {
	for _, bad := range []int{-1, -33, math.MinInt, bound, bound + 1, 1 << 45, math.MaxInt, -bound, 1 - bound} {
		for _, other := range []int{0, 1, bound - 1, bad} {
			if id, err := Make(bad, other); id != "" || err != api.ErrArg {
				t.Errorf("Make %d, %d: %q, %d", bad, other, id, err)
			}
			if id, err := Make(other, bad); id != "" || err != api.ErrArg {
				t.Errorf("Make %d, %d: %q, %d", other, bad, id, err)
			}
		}
	}
}

// P8.1, P8.2: of each tick and number the name, and back.
func TestThereAndBack(t *testing.T) {
	l := numbers()
	for _, tick := range l {
		for _, seq := range l {
			id, err := Make(tick, seq)
			if id != half8(tick)+half8(seq) || len(id) != Len || err != api.OK {
				t.Errorf("Make %d, %d: %q, %d", tick, seq, id, err)
			}
			if a, b, err := Parse(id); a != tick || b != seq || err != api.OK {
				t.Errorf("Parse %q: %d, %d, %d", id, a, b, err)
			}
		}
	}
}

// isName: is it a name, by the chapter's words?
func isName(s string) bool {
	return len(s) == 16 && strings.Trim(s, alphabet) == ""
}

// parsed: a text is a name if it should be, and then that of its tick and number.
func parsed(t *testing.T, s string) {
	t.Helper()
	tick, seq, err := Parse(s)
	if !isName(s) {
		if tick != 0 || seq != 0 || err != api.ErrForm {
			t.Errorf("Parse %q: %d, %d, %d", s, tick, seq, err)
		}
		return
	}
	if id, err1 := Make(tick, seq); id != s || err != api.OK || err1 != api.OK {
		t.Errorf("Parse %q: %d, %d, %d, which is %q", s, tick, seq, err, id)
	}
}

// P8.1, P8.2: each byte at each place; 32 of them are digits.
func TestParseBytes(t *testing.T) {
	for _, name := range []string{"0000000000000000", "0000001100000001", "zzzzzzzzzzzzzzzz", "a1b2c3d4e5f6g7h8"} {
		for i := range name {
			for c := range 256 {
				parsed(t, name[:i]+string([]byte{byte(c)})+name[i+1:])
			}
		}
	}
}

// P8.1, K1, K2: what has less or more than 16 bytes, or others than digits.
func TestParseErrors(t *testing.T) {
	const name = "0123456789abcdef"
	for i := range Len {
		parsed(t, name[:i])
		parsed(t, name[i+1:])
		parsed(t, name+name[:i+1])
		parsed(t, name[:i]+"\u00e9"+name[min(i+2, Len):])
	}
	for _, s := range []string{
		"000000110000000i", "000000110000000l", "000000110000000o", "000000110000000u",
		"i000001100000001", "l000001100000001", "o000001100000001", "u000001100000001",
		"000000110000000A", "000000110000000Z", "Z000001100000001",
		"000000110000000 ", " 00000110000000", "+000001100000001", "-000001100000001", "0000_00110000000",
		"0000001100000001/", "/000001100000001", "0000001/00000001", "0000001100000001\n", "000000110000000\x00",
		"\x00000000000000000", strings.Repeat("\xff", 16), strings.Repeat("\u00e9", 8), strings.Repeat("\u0661", 16),
		strings.Repeat("0", 15), strings.Repeat("0", 17), strings.Repeat("0", 32), strings.Repeat("0", 1<<16), "0000001100000001/meta",
	} {
		if tick, seq, err := Parse(s); tick != 0 || seq != 0 || err != api.ErrForm {
			t.Errorf("Parse %q: %d, %d, %d", s, tick, seq, err)
		}
	}
}

// P8.3: by ticks, then by numbers, both as texts and as numbers.
func TestNamesRise(t *testing.T) {
	l := numbers()
	last := ""
	for _, tick := range l {
		for _, seq := range l {
			id, _ := Make(tick, seq)
			if last != "" && last >= id {
				t.Errorf("%d, %d: %q isn't behind %q", tick, seq, id, last)
			}
			last = id
		}
	}
}

// P8.1: any two texts, with a / between.
func TestObject(t *testing.T) {
	for _, c := range []struct{ id, part, want string }{
		{"0000001100000001", Chunks, "0000001100000001/chunks"},
		{"0000001100000001", Index, "0000001100000001/index"},
		{"0000001100000001", Meta, "0000001100000001/meta"},
		{"0000001100000001", Mark, "0000001100000001/mark"},
		{"0000001100000001", "", "0000001100000001/"},
		{"", Meta, "/meta"},
		{"", "", "/"},
		{"x", "y", "x/y"},
		{"a/b", "/c", "a/b//c"},
		{"\xff", "\x00", "\xff/\x00"},
	} {
		if got := Object(c.id, c.part); got != c.want {
			t.Errorf("Object %q, %q: %q", c.id, c.part, got)
		}
	}
}

// P8.1, P8.2: the objects of blocks, and back.
func TestSplit(t *testing.T) {
	l := numbers()
	for i, tick := range l {
		id, _ := Make(tick, l[len(l)-1-i])
		for _, part := range []string{Chunks, Index, Meta, Mark} {
			a, b, is := Split(Object(id, part))
			if a != id || b != part || !is {
				t.Errorf("Split %q: %q, %q, %v", Object(id, part), a, b, is)
			}
		}
	}
}

// P8.1, K1, K2: what isn't a name, the first /, one of the four parts.
func TestSplitErrors(t *testing.T) {
	const id = "0000001100000001"
	for _, s := range []string{
		"", "/", "//", "index", "meta", "/meta", "x/meta", id, id + "/",
		id + "meta", id + "//meta", id + "/meta/", id + "/meta/meta", id + "/" + id + "/meta", "/" + id + "/meta",
		id + "/x", id + "/met", id + "/metas", id + "/Meta", id + "/META", id + "/ meta", id + "/meta ", id + "/meta\x00",
		id + "/chunk", id + "/chunkss", id + "/indexes", id + "/marks", id + "/chunks/index", id + "/chunksindex", id + "/\xff",
		id + "\\meta", id + " /meta", " " + id + "/meta", id + "0/meta", id[1:] + "/meta", id + "\x00/meta", "meta/" + id,
		"000000110000000i/meta", "000000110000000U/index", "000000110000000Z/chunks", "00000011/0000001/mark", strings.Repeat("/", 1000),
	} {
		if a, b, is := Split(s); a != "" || b != "" || is {
			t.Errorf("Split %q: %q, %q, %v", s, a, b, is)
		}
	}
}

// P8.1: of an object's name with a byte that is another one: it is a block's, just if its text is.
func TestSplitBytes(t *testing.T) {
	parts := []string{Chunks, Index, Meta, Mark}
	for _, part := range parts {
		name := Object("0a0b0c0d0e0f0g0h", part)
		for i := range name {
			for c := range 256 {
				s := name[:i] + string([]byte{byte(c)}) + name[i+1:]
				want := isName(s[:16]) && s[16] == '/' && slices.Contains(parts, s[17:])
				if a, b, is := Split(s); is != want || is && Object(a, b) != s || !is && a+b != "" {
					t.Errorf("Split %q: %q, %q, %v", s, a, b, is)
				}
			}
		}
	}
}

// K4: twice alike.
func TestAlike(t *testing.T) {
	for _, v := range append(numbers(), -1, bound) {
		a, err := Make(v, v/2)
		b, err1 := Make(v, v/2)
		if a != b || err != err1 {
			t.Errorf("Make %d", v)
		}
	}
}

package bucket

import (
	"math"
	"slices"
	"strings"
	"testing"

	"barograph/api"
)

// want: did a call end so?
func want(t *testing.T, what string, got, wanted api.Errno) {
	t.Helper()
	if got != wanted {
		t.Errorf("%s: %d, not %d", what, got, wanted)
	}
}

// gets: does a call answer these bytes, and this error?
func gets(t *testing.T, what, s string, err api.Errno, wanted string, wantedErr api.Errno) {
	t.Helper()
	if s != wanted || err != wantedErr {
		t.Errorf("%s: %q, %d, not %q, %d", what, s, err, wanted, wantedErr)
	}
}

// thing: an object as a test names it.
type thing struct {
	name, data string
	at         int
}

// holds: does a bucket have these objects, by rising names, no others? The fuse isn't tried.
func holds(t *testing.T, what string, b *Bucket, things ...thing) {
	t.Helper()
	var l []Info
	for _, x := range things {
		l = append(l, Info{Name: x.name, Size: len(x.data), At: x.at})
		if s, there := b.Peek(x.name); s != x.data || !there {
			t.Errorf("%s: Peek %q: %q, %v, not %q", what, x.name, s, there, x.data)
		}
	}
	if got := b.Look(""); !slices.Equal(got, l) {
		t.Errorf("%s: Look: %v, not %v", what, got, l)
	}
}

// P5.1: the chapter's example.
func TestExample(t *testing.T) {
	b := New()
	want(t, "Put", b.Put("a", "xyz", 0), api.OK)
	s, err := b.Range("a", 1, 9)
	gets(t, "Range", s, err, "yz", api.OK)
	want(t, "Arm", b.Arm(0, true), api.OK)
	want(t, "Delete", b.Delete("a"), api.ErrIO)
	s, err = b.Get("a")
	gets(t, "Get", s, err, "", api.ErrNone)
}

// P5.1: a new bucket has no objects, and no fault.
func TestNew(t *testing.T) {
	b := New()
	holds(t, "New", b)
	if l, err := b.List(""); len(l) != 0 || err != api.OK {
		t.Errorf("List: %v, %d", l, err)
	}
	if works, done := b.Try(); !works || !done {
		t.Errorf("Try: %v, %v", works, done)
	}
}

// P5.1: an object has its last Put's bytes and tick; a tick may be any number, bytes may be none.
func TestPut(t *testing.T) {
	b := New()
	want(t, "new", b.Put("b", "xyz", 7), api.OK)
	want(t, "empty", b.Put("a", "", 3), api.OK)
	holds(t, "two", b, thing{"a", "", 3}, thing{"b", "xyz", 7})
	want(t, "shorter, earlier", b.Put("b", "q", 2), api.OK)
	want(t, "longer, at once", b.Put("a", "\x00\xff", 3), api.OK)
	holds(t, "others", b, thing{"a", "\x00\xff", 3}, thing{"b", "q", 2})
	want(t, "empty again", b.Put("b", "", 9), api.OK)
	for _, now := range []int{0, -1, math.MinInt, math.MaxInt} {
		want(t, "at any time", b.Put("a", "x", now), api.OK)
		holds(t, "at any time", b, thing{"a", "x", now}, thing{"b", "", 9})
	}
}

// P5.1: a name of 1 to 40 bytes may be, whatever they are.
func TestPutNames(t *testing.T) {
	b := New()
	long := strings.Repeat("n", api.MaxName)
	want(t, "none", b.Put("", "x", 1), api.ErrArg)
	want(t, "41", b.Put(long+"n", "x", 1), api.ErrArg)
	// Bytes count, not runes.
	want(t, "41 in runes", b.Put(strings.Repeat("é", 20)+"x", "x", 1), api.ErrArg)
	holds(t, "none taken", b)
	want(t, "40", b.Put(long, "x", 1), api.OK)
	want(t, "1", b.Put("\x00", "y", 2), api.OK)
	want(t, "slashes", b.Put("/a//", "z", 3), api.OK)
	holds(t, "edges", b, thing{"\x00", "y", 2}, thing{"/a//", "z", 3}, thing{long, "x", 1})
}

// P5.1, K1: behind Delete there is no such object, whether there was one or not; of names that may not be, too.
func TestDelete(t *testing.T) {
	b := New()
	b.Put("a", "x", 1)
	b.Put("ab", "y", 2)
	for _, name := range []string{"b", "", "A", strings.Repeat("n", api.MaxName+1)} {
		want(t, "Delete none", b.Delete(name), api.OK)
		holds(t, "Delete none", b, thing{"a", "x", 1}, thing{"ab", "y", 2})
	}
	want(t, "Delete", b.Delete("a"), api.OK)
	holds(t, "Delete", b, thing{"ab", "y", 2})
	want(t, "again", b.Delete("a"), api.OK)
	want(t, "Put", b.Put("a", "", 3), api.OK)
	holds(t, "another one", b, thing{"a", "", 3}, thing{"ab", "y", 2})
}

// P5.1: an object's bytes, and what isn't there, one with no bytes beside it.
func TestGetAndPeek(t *testing.T) {
	b := New()
	b.Put("a", "x\x00y", 1)
	b.Put("e", "", 2)
	for _, c := range []struct {
		name, data string
		err        api.Errno
	}{
		{"a", "x\x00y", api.OK},
		{"e", "", api.OK},
		{"", "", api.ErrNone},
		{"A", "", api.ErrNone},
		{"a\x00", "", api.ErrNone},
		{strings.Repeat("n", api.MaxName+1), "", api.ErrNone},
	} {
		s, err := b.Get(c.name)
		gets(t, "Get "+c.name, s, err, c.data, c.err)
		if s, there := b.Peek(c.name); s != c.data || there != (c.err == api.OK) {
			t.Errorf("Peek %q: %q, %v", c.name, s, there)
		}
	}
}

// P5.1, K2: at most n bytes from one on, of any numbers; that there is none comes ahead of a number that may not be.
func TestRange(t *testing.T) {
	b := New()
	b.Put("a", "01234", 1)
	b.Put("e", "", 1)
	for _, c := range []struct {
		name    string
		from, n int
		want    string
		err     api.Errno
	}{
		{"a", 0, 5, "01234", api.OK},
		{"a", 0, 6, "01234", api.OK},
		{"a", 0, 4, "0123", api.OK},
		{"a", 0, 0, "", api.OK},
		{"a", 2, 2, "23", api.OK},
		{"a", 2, 3, "234", api.OK},
		{"a", 2, 4, "234", api.OK},
		{"a", 4, 1, "4", api.OK},
		{"a", 5, 0, "", api.OK},
		{"a", 5, 1, "", api.OK},
		{"a", 1, math.MaxInt, "1234", api.OK},
		{"a", 5, math.MaxInt, "", api.OK},
		{"a", 6, 0, "", api.ErrArg},
		{"a", 6, math.MaxInt, "", api.ErrArg},
		{"a", math.MaxInt, math.MaxInt, "", api.ErrArg},
		{"a", -1, 1, "", api.ErrArg},
		{"a", math.MinInt, 1, "", api.ErrArg},
		{"a", 0, -1, "", api.ErrArg},
		{"a", 2, math.MinInt, "", api.ErrArg},
		{"a", -1, -1, "", api.ErrArg},
		{"e", 0, 0, "", api.OK},
		{"e", 0, 9, "", api.OK},
		{"e", 1, 0, "", api.ErrArg},
		{"b", 0, 1, "", api.ErrNone},
		{"b", -1, -1, "", api.ErrNone},
		{"", 0, 0, "", api.ErrNone},
		{strings.Repeat("n", api.MaxName+1), 0, 0, "", api.ErrNone},
	} {
		s, err := b.Range(c.name, c.from, c.n)
		if s != c.want || err != c.err {
			t.Errorf("Range %q from %d, %d: %q, %d, not %q, %d", c.name, c.from, c.n, s, err, c.want, c.err)
		}
	}
}

// P5.1, K4: those whose names begin so, rising byte by byte, with sizes and ticks.
func TestListAndLook(t *testing.T) {
	b := New()
	for i, name := range []string{"b", "a/2", "\xff", "a", "a/10", "é", "A", "a/1", "ba", "\x00"} {
		b.Put(name, strings.Repeat("x", i), 10-i)
	}
	for _, c := range []struct {
		prefix string
		want   []Info
	}{
		{"", []Info{{"\x00", 9, 1}, {"A", 6, 4}, {"a", 3, 7}, {"a/1", 7, 3}, {"a/10", 4, 6}, {"a/2", 1, 9}, {"b", 0, 10}, {"ba", 8, 2}, {"é", 5, 5}, {"\xff", 2, 8}}},
		{"a", []Info{{"a", 3, 7}, {"a/1", 7, 3}, {"a/10", 4, 6}, {"a/2", 1, 9}}},
		{"a/1", []Info{{"a/1", 7, 3}, {"a/10", 4, 6}}},
		{"a/10", []Info{{"a/10", 4, 6}}},
		{"a/100", nil},
		{"/", nil},
		{"\xc3", []Info{{"é", 5, 5}}},
		{strings.Repeat("a", 50), nil},
	} {
		if l, err := b.List(c.prefix); !slices.Equal(l, c.want) || err != api.OK {
			t.Errorf("List %q: %v, %d, not %v", c.prefix, l, err, c.want)
		}
		if l := b.Look(c.prefix); !slices.Equal(l, c.want) {
			t.Errorf("Look %q: %v, not %v", c.prefix, l, c.want)
		}
	}
}

// K3: what was answered stays, and what is done to it changes no bucket.
func TestAnswersStay(t *testing.T) {
	b := New()
	b.Put("a", "01234", 1)
	b.Put("b", "", 2)
	s, _ := b.Get("a")
	part, _ := b.Range("a", 1, 3)
	peeked, _ := b.Peek("a")
	listed, _ := b.List("")
	looked := b.Look("")
	b.Put("a", "56789", 3)
	b.Delete("b")
	was := []Info{{"a", 5, 1}, {"b", 0, 2}}
	if s != "01234" || part != "123" || peeked != "01234" || !slices.Equal(listed, was) || !slices.Equal(looked, was) {
		t.Errorf("%q, %q, %q, %v, %v", s, part, peeked, listed, looked)
	}
	listed, _ = b.List("")
	looked = b.Look("")
	listed[0] = Info{"z", 9, 9}
	if looked[0].Name != "a" {
		t.Error("List and Look share an answer")
	}
	looked[0] = Info{"z", 9, 9}
	holds(t, "the lists were changed", b, thing{"a", "56789", 3})
}

// P5.1, K3: two buckets have neither objects nor faults together.
func TestBucketsApart(t *testing.T) {
	b, other := New(), New()
	b.Put("a", "x", 1)
	b.Arm(0, true)
	holds(t, "the other", other)
	want(t, "the other's", other.Put("b", "y", 2), api.OK)
	other.Clear()
	want(t, "its own", b.Delete("a"), api.ErrIO)
	holds(t, "its own", b)
	holds(t, "the other", other, thing{"b", "y", 2})
}

package block

import (
	"math"
	"slices"
	"strings"
	"testing"

	"barograph/api"
	"barograph/label"
)

// entry: that of some labels, and its numbers.
func entry(s string, from, n int, low, high int64) Entry {
	return Entry{Labels: set(s), From: from, N: n, Min: low, Max: high}
}

// alike: are two lists of entries the same?
func alike(a, b []Entry) bool {
	return slices.EqualFunc(a, b, func(x, y Entry) bool {
		return slices.Equal(x.Labels, y.Labels) && x.From == y.From && x.N == y.N && x.Min == y.Min && x.Max == y.Max
	})
}

// reads: does Entries answer this, nil beside an error?
func reads(t *testing.T, what, s string, want []Entry, wantErr api.Errno) {
	t.Helper()
	l, err := Entries(s)
	if !alike(l, want) || err != wantErr {
		t.Errorf("%s: %v, %d, not %d", what, l, err, wantErr)
	}
	if err != api.OK && l != nil {
		t.Errorf("%s: not nil beside %d", what, err)
	}
}

// P16.1, P16.2: an index's bytes, and back.
func TestIndex(t *testing.T) {
	for _, c := range []struct {
		l    []Entry
		want string
	}{
		{nil, "\x00"},
		{[]Entry{}, "\x00"},
		{[]Entry{entry("a=1", 0, 1, 0, 0)}, "\x01\x01\x01a\x011\x00\x01\x00\x00"},
		{[]Entry{entry("a=1", 300, 22, 5, 300)}, "\x01\x01\x01a\x011\xac\x02\x16\x05\xac\x02"},
		{[]Entry{entry("a=1", 0, 22, 5, 6), entry("b=22,c=3", 22, 1, 7, 7)}, "\x02\x01\x01a\x011\x00\x16\x05\x06\x02\x01b\x0222\x01c\x013\x16\x01\x07\x07"},
		{[]Entry{entry("a=1", 1<<20, 1<<20, 1<<40, 1<<40)}, "\x01\x01\x01a\x011" + numbers(1<<20, 1<<20, 1<<40, 1<<40)},
		// From and N of one needn't go with those of the next one.
		{[]Entry{entry("a=1", 9, 9, 0, 1<<40), entry("a=1,b=1", 0, 3, 5, 5)}, "\x02\x01\x01a\x011\x09\x09\x00" + numbers(1<<40) + "\x02\x01a\x011\x01b\x011\x00\x03\x05\x05"},
	} {
		if got := Index(c.l); got != record(5, c.want) {
			t.Errorf("Index: %x, not %x", got, record(5, c.want))
		}
		reads(t, "back", record(5, c.want), c.l, api.OK)
	}
}

// P1, K7: entries that no index may have are written, and refused.
func TestIndexOfAny(t *testing.T) {
	for i, c := range []struct {
		l   []Entry
		err api.Errno
	}{
		{[]Entry{{}}, api.ErrForm},
		{[]Entry{{N: 1}}, api.ErrForm},
		{[]Entry{entry("a=1", -1, 1, 0, 0)}, api.ErrBig},
		{[]Entry{entry("a=1", 0, math.MinInt, 0, 0)}, api.ErrBig},
		{[]Entry{entry("a=1", 0, 1, -1, 0)}, api.ErrBig},
		{[]Entry{entry("a=1", 0, 1, 0, math.MaxInt64)}, api.ErrBig},
		{[]Entry{entry("a=1", 0, 0, 0, 0)}, api.ErrForm},
		{[]Entry{entry("a=1", 0, 1, 2, 1)}, api.ErrForm},
		{[]Entry{{Labels: make(label.Set, 9), N: 1}}, api.ErrBig},
		{make([]Entry, 10001), api.ErrBig},
		{[]Entry{{Labels: label.Set{{Name: strings.Repeat("a", 1<<20+1), Value: "1"}}, N: 1}}, api.ErrBig},
	} {
		before := slices.Clone(c.l)
		reads(t, "any entries", Index(c.l), nil, c.err)
		if !alike(c.l, before) {
			t.Errorf("%d: changed", i)
		}
	}
}

// P16.1, K2: what is no index, with the error that the chapter names first.
func TestEntriesErrors(t *testing.T) {
	a, b := entry("a=1", 0, 22, 5, 6), entry("b=1", 22, 22, 7, 8)
	fields := func(l ...Entry) string { return Index(l)[7:] }
	if record(5, "\x01"+fields(a)) != Index([]Entry{a}) {
		t.Fatal("the test's own fields are wrong")
	}
	two := "\x02" + fields(a) + fields(b)
	whole := record(5, two)
	reads(t, "two", whole, []Entry{a, b}, api.OK)
	otherSum := []byte(whole)
	otherSum[3] ^= 1
	key := a.Labels.Key()
	for _, c := range []struct {
		what, s string
		err     api.Errno
	}{
		{"nothing", "", api.ErrEnd},
		{"a record too big", record(5, strings.Repeat("\x00", 1<<20+1)), api.ErrBig},
		{"a record's size in another way", "\x05\x80\x00", api.ErrForm},
		{"another sum", string(otherSum), api.ErrSum},
		{"another sum, and bytes behind", string(otherSum) + "x", api.ErrSum},
		{"another sum, of another kind", "\x04" + string(otherSum[1:]), api.ErrSum},
		{"kind 4", record(4, two), api.ErrForm},
		{"kind 6", record(6, two), api.ErrForm},
		{"kind 0", record(0, two), api.ErrForm},
		{"kind 4, and bytes wanting", record(4, ""), api.ErrForm},
		{"a byte behind", whole + "\x00", api.ErrForm},
		{"two indexes", whole + whole, api.ErrForm},
		{"a byte behind, and bytes wanting", record(5, "") + "x", api.ErrForm},
		{"no number", record(5, ""), api.ErrEnd},
		{"a number that doesn't end", record(5, "\x80"), api.ErrEnd},
		{"a number in another way", record(5, "\x80\x00"), api.ErrForm},
		{"10000 entries that aren't there", record(5, numbers(10000)), api.ErrEnd},
		{"10001 entries", record(5, numbers(10001)), api.ErrBig},
		{"2^64 - 1 entries", record(5, numbers(math.MaxUint64)), api.ErrBig},
		{"no second entry", record(5, "\x02"+fields(a)), api.ErrEnd},
		{"labels alone", record(5, "\x01"+key), api.ErrEnd},
		{"no N", record(5, "\x01"+key+"\x00"), api.ErrEnd},
		{"no Min", record(5, "\x01"+key+"\x00\x16"), api.ErrEnd},
		{"no Max", record(5, "\x01"+key+"\x00\x16\x05"), api.ErrEnd},
		{"no Max behind N 0", record(5, "\x01"+key+"\x00\x00\x05"), api.ErrEnd},
		{"From above 2^20", record(5, "\x01"+key+numbers(1<<20+1, 22, 5, 6)), api.ErrBig},
		{"N above 2^20", record(5, "\x01"+key+numbers(0, 1<<20+1, 5, 6)), api.ErrBig},
		{"Min above 2^40", record(5, "\x01"+key+numbers(0, 22, 1<<40+1, 1<<40+2)), api.ErrBig},
		{"Max above 2^40", record(5, "\x01"+key+numbers(0, 22, 5, 1<<40+1)), api.ErrBig},
		{"From in another way", record(5, "\x01"+key+"\x80\x00\x16\x05\x06"), api.ErrForm},
		{"N in another way", record(5, "\x01"+key+"\x00\x96\x00\x05\x06"), api.ErrForm},
		{"Min in another way", record(5, "\x01"+key+"\x00\x16\x85\x00\x06"), api.ErrForm},
		{"Max in another way", record(5, "\x01"+key+"\x00\x16\x05\x86\x00"), api.ErrForm},
		{"nine labels", record(5, "\x01\x09"), api.ErrBig},
		{"a name of 41 bytes", record(5, "\x01\x01"+numbers(41)), api.ErrBig},
		{"no labels", record(5, "\x01\x00\x00\x16\x05\x06"), api.ErrForm},
		{"labels that may not be", record(5, "\x01\x01\x01-\x011\x00\x16\x05\x06"), api.ErrForm},
		{"labels that may not be, and From above 2^20", record(5, "\x01\x01\x01-\x011"+numbers(1<<20+1)), api.ErrForm},
		{"labels that may not be, and no more", record(5, "\x01\x01\x01-\x011"), api.ErrForm},
		{"N 0", record(5, "\x01"+key+"\x00\x00\x05\x06"), api.ErrForm},
		{"N 0, and Max above 2^40", record(5, "\x01"+key+numbers(0, 0, 5, 1<<40+1)), api.ErrBig},
		{"Min above Max", record(5, "\x01"+key+"\x00\x16\x06\x05"), api.ErrForm},
		{"N 0, and no second entry", record(5, "\x02"+key+"\x00\x00\x05\x06"), api.ErrForm},
		{"Min above Max, and a second entry that is too big", record(5, "\x02"+key+"\x00\x16\x06\x05"+key+numbers(1<<21)), api.ErrForm},
		{"a second entry that is too big, and bytes behind", record(5, "\x02"+fields(a)+key+numbers(1<<21)+"xxxxxxxxx"), api.ErrBig},
		{"a second N 0", record(5, "\x02"+fields(a)+b.Labels.Key()+"\x16\x00\x07\x08"), api.ErrForm},
		{"a second Min above Max", record(5, "\x02"+fields(a)+b.Labels.Key()+"\x16\x01\x08\x07"), api.ErrForm},
		{"labels that fall", record(5, "\x02"+fields(b)+fields(a)), api.ErrForm},
		{"labels twice", record(5, "\x02"+fields(a)+fields(a)), api.ErrForm},
		{"labels that fall, and no third entry", record(5, "\x03"+fields(b)+fields(a)), api.ErrForm},
		{"no third entry", record(5, "\x03"+fields(a)+fields(b)), api.ErrEnd},
		{"labels that fall behind", record(5, "\x03"+fields(a)+fields(b)+fields(a)), api.ErrForm},
		{"more labels, then less", record(5, "\x02"+fields(entry("a=1,b=1", 0, 1, 1, 1))+fields(a)), api.ErrForm},
		{"a byte behind inside", record(5, two+"\x00"), api.ErrForm},
		{"an entry more inside", record(5, "\x01"+fields(a)+fields(b)), api.ErrForm},
		{"bytes behind none", record(5, "\x00\x00"), api.ErrForm},
	} {
		reads(t, c.what, c.s, nil, c.err)
	}
	for i := range whole {
		reads(t, "cut", whole[:i], nil, api.ErrEnd)
	}
	for i := range two {
		reads(t, "cut inside", record(5, two[:i]), nil, api.ErrEnd)
	}
}

// P16.2: as many entries as there may be, and back.
func TestManyEntries(t *testing.T) {
	var l []Entry
	for i, r := range many(10000) {
		l = append(l, Entry{Labels: r.Labels, From: i, N: i + 1, Min: int64(i), Max: int64(2 * i)})
	}
	reads(t, "10000", Index(l), l, api.OK)
	l = append(l, entry("z=1", 0, 1, 0, 0))
	reads(t, "10001", Index(l), nil, api.ErrBig)
}

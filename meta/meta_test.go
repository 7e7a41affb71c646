package meta

import (
	"math"
	"slices"
	"strings"
	"testing"

	"barograph/api"
	"barograph/frame"
	"barograph/ident"
)

// id: the n-th block's name.
func id(n int) string {
	s, _ := ident.Make(33, n)
	return s
}

// ids: the names of blocks from one on, ahead of another one.
func ids(from, to int) []string {
	var l []string
	for n := from; n < to; n++ {
		l = append(l, id(n))
	}
	return l
}

// plain: a meta with ordinary fields.
func plain() Meta {
	return Meta{
		ID: id(9), Min: 100, Max: 200, Level: 2, Series: 2, Samples: 7,
		Files:   []File{{Name: "chunks", Size: 300, Sum: 0x01020304}, {Name: "index", Size: 5, Sum: 6}},
		Sources: []string{id(1), id(2)},
	}
}

// bent: a plain meta with something else in it.
func bent(bend func(m *Meta)) Meta {
	m := plain()
	bend(&m)
	return m
}

// same: are two metas the same, nil and empty lists alike?
func same(a, b Meta) bool {
	return a.ID == b.ID && a.Min == b.Min && a.Max == b.Max && a.Level == b.Level && a.Series == b.Series && a.Samples == b.Samples &&
		slices.Equal(a.Files, b.Files) && slices.Equal(a.Sources, b.Sources)
}

// good: metas without an error, at the edges of each field.
func good() []Meta {
	return []Meta{
		plain(),
		bent(func(m *Meta) { m.ID = "0000000000000000" }),
		bent(func(m *Meta) { m.ID = "zzzzzzzzzzzzzzzz" }),
		bent(func(m *Meta) { m.Min, m.Max = 0, 1 }),
		bent(func(m *Meta) { m.Min, m.Max = 0, 1<<40 }),
		bent(func(m *Meta) { m.Min, m.Max = 1<<40-1, 1<<40 }),
		bent(func(m *Meta) { m.Min, m.Max = 127, 128 }),
		bent(func(m *Meta) { m.Level = 1 }),
		bent(func(m *Meta) { m.Level = 9 }),
		bent(func(m *Meta) { m.Series, m.Samples = 0, 0 }),
		bent(func(m *Meta) { m.Series, m.Samples = 0, 1<<30 }),
		bent(func(m *Meta) { m.Series, m.Samples = 1<<30, 1<<30 }),
		bent(func(m *Meta) { m.Series = 7 }),
		bent(func(m *Meta) { m.Files = []File{Of("chunks", ""), Of("index", "")} }),
		bent(func(m *Meta) { m.Files[0].Size, m.Files[1].Size = 1<<20, 1<<20 }),
		bent(func(m *Meta) { m.Files[0].Sum, m.Files[1].Sum = math.MaxUint32, 0 }),
		bent(func(m *Meta) { m.Sources = nil }),
		bent(func(m *Meta) { m.Sources = []string{} }),
		bent(func(m *Meta) { m.Sources = []string{id(10)} }),
		bent(func(m *Meta) { m.Sources = []string{id(8), id(10)} }),
		bent(func(m *Meta) { m.Sources = ids(10, 60) }),
		bent(func(m *Meta) { m.Sources = []string{"0000000000000000", "zzzzzzzzzzzzzzzz"} }),
	}
}

// badNames: texts that aren't a block's name.
func badNames() []string {
	return []string{"", "x", id(9)[1:], id(9) + "0", "000000110000000i", "000000110000000Z", id(9)[:15] + "\x00", strings.Repeat("\xff", 16), strings.Repeat("0", 1<<16)}
}

// bad: metas with one thing wrong.
func bad() []Meta {
	l := []Meta{
		{},
		bent(func(m *Meta) { m.Min = -1 }),
		bent(func(m *Meta) { m.Min = math.MinInt64 }),
		bent(func(m *Meta) { m.Min, m.Max = -2, -1 }),
		bent(func(m *Meta) { m.Max = m.Min }),
		bent(func(m *Meta) { m.Max = m.Min - 1 }),
		bent(func(m *Meta) { m.Min, m.Max = 0, 0 }),
		bent(func(m *Meta) { m.Max = 1<<40 + 1 }),
		bent(func(m *Meta) { m.Max = math.MaxInt64 }),
		bent(func(m *Meta) { m.Min, m.Max = 1<<40, 1<<40+1 }),
		bent(func(m *Meta) { m.Level = 0 }),
		bent(func(m *Meta) { m.Level = -1 }),
		bent(func(m *Meta) { m.Level = 10 }),
		bent(func(m *Meta) { m.Series = -1 }),
		bent(func(m *Meta) { m.Series, m.Samples = -2, -1 }),
		bent(func(m *Meta) { m.Series = 8 }),
		bent(func(m *Meta) { m.Samples = 1 }),
		bent(func(m *Meta) { m.Samples = 1<<30 + 1 }),
		bent(func(m *Meta) { m.Series, m.Samples = 1<<30+1, 1<<30+1 }),
		bent(func(m *Meta) { m.Samples = math.MaxInt }),
		bent(func(m *Meta) { m.Files = nil }),
		bent(func(m *Meta) { m.Files = m.Files[:1] }),
		bent(func(m *Meta) { m.Files = m.Files[1:] }),
		bent(func(m *Meta) { m.Files = append(m.Files, m.Files[1]) }),
		bent(func(m *Meta) { m.Files = append(m.Files, File{}) }),
		bent(func(m *Meta) { m.Files[0], m.Files[1] = m.Files[1], m.Files[0] }),
		bent(func(m *Meta) { m.Files[1] = m.Files[0] }),
		bent(func(m *Meta) { m.Files[0].Name = "" }),
		bent(func(m *Meta) { m.Files[0].Name = "Chunks" }),
		bent(func(m *Meta) { m.Files[1].Name = "index " }),
		bent(func(m *Meta) { m.Files[1].Name = "meta" }),
		bent(func(m *Meta) { m.Files[0].Size = -1 }),
		bent(func(m *Meta) { m.Files[1].Size = -1 }),
		bent(func(m *Meta) { m.Files[0].Size = 1<<20 + 1 }),
		bent(func(m *Meta) { m.Files[1].Size = math.MaxInt }),
		bent(func(m *Meta) { m.Sources = ids(10, 61) }),
		bent(func(m *Meta) { m.Sources = ids(10, 1000) }),
		bent(func(m *Meta) { m.Sources = []string{id(2), id(1)} }),
		bent(func(m *Meta) { m.Sources = []string{id(1), id(3), id(2)} }),
		bent(func(m *Meta) { m.Sources = []string{id(1), id(1)} }),
		bent(func(m *Meta) { m.Sources = []string{id(9)} }),
		bent(func(m *Meta) { m.Sources = []string{id(8), id(9), id(10)} }),
	}
	for _, s := range badNames() {
		l = append(l,
			bent(func(m *Meta) { m.ID = s }),
			bent(func(m *Meta) { m.Sources = []string{s} }),
			bent(func(m *Meta) { m.Sources = []string{id(1), s} }),
		)
	}
	return l
}

// P9.1: the number that the chapter gives.
func TestWords(t *testing.T) {
	if MaxSources != 50 {
		t.Errorf("%d", MaxSources)
	}
}

// P9.1: what may be said of a block, and what may not.
func TestCheck(t *testing.T) {
	for i, m := range good() {
		if err := m.Check(); err != api.OK {
			t.Errorf("good %d: %d", i, err)
		}
	}
	for i, m := range bad() {
		if err := m.Check(); err != api.ErrForm {
			t.Errorf("bad %d: %d", i, err)
		}
	}
}

// P9.1: a file is its name, how many bytes it has, and their sum.
func TestOf(t *testing.T) {
	for _, c := range []struct {
		name, data string
		want       File
	}{
		{"chunks", "123456789", File{"chunks", 9, 0xe3069283}},
		{"index", "", File{"index", 0, 0}},
		{"", strings.Repeat("\x00", 32), File{"", 32, 0x8a9136aa}},
		{"any\xff name/", strings.Repeat("\xff", 32), File{"any\xff name/", 32, 0x62a8ab43}},
	} {
		if got := Of(c.name, c.data); got != c.want {
			t.Errorf("Of %q: %+v, not %+v", c.name, got, c.want)
		}
	}
}

// P9.1: bytes are a file's by their size and their sum, both.
func TestHolds(t *testing.T) {
	texts := []string{"", "\x00", "a", "b", "ab", "ba", "a\x00", "\x00a", strings.Repeat("x", 1000), strings.Repeat("x", 1001)}
	for i, a := range texts {
		for j, b := range texts {
			if got := Of("chunks", a).Holds(b); got != (i == j) {
				t.Errorf("%.9q holds %.9q: %v", a, b, got)
			}
		}
	}
	sum := frame.Sum("ab")
	for _, c := range []struct {
		f    File
		want bool
	}{
		{File{"chunks", 2, sum}, true},
		{File{"", 2, sum}, true},
		{File{"chunks", 1, sum}, false},
		{File{"chunks", 3, sum}, false},
		{File{"chunks", -2, sum}, false},
		{File{"chunks", 2, sum + 1}, false},
		{File{"chunks", 2, ^sum}, false},
	} {
		if got := c.f.Holds("ab"); got != c.want {
			t.Errorf("%+v holds ab: %v", c.f, got)
		}
	}
	if !(File{}).Holds("") {
		t.Error("a file of no bytes")
	}
}

// P9.1: what is a source, and what isn't.
func TestLists(t *testing.T) {
	m := plain()
	m.Sources = []string{id(1), id(3), id(5)}
	for _, c := range []struct {
		id   string
		want bool
	}{{id(1), true}, {id(3), true}, {id(5), true}, {id(0), false}, {id(2), false}, {id(4), false}, {id(6), false}, {id(9), false}, {"", false}, {id(1)[:15], false}} {
		if got := m.Lists(c.id); got != c.want {
			t.Errorf("%q: %v", c.id, got)
		}
	}
	m.Sources = nil
	if m.Lists(id(1)) || m.Lists("") {
		t.Error("a source of none")
	}
	m.Sources = []string{"z", "a"}
	if !m.Lists("z") || !m.Lists("a") || m.Lists("b") {
		t.Error("sources that may not be")
	}
}

// P9.1: times from Min on, ahead of Max; from one on, ahead of another one.
func TestMeets(t *testing.T) {
	m := plain()
	for _, c := range []struct {
		from, to int64
		want     bool
	}{
		{100, 200, true}, {0, 1 << 40, true}, {150, 151, true}, {0, 101, true}, {199, 300, true}, {199, 200, true}, {100, 101, true},
		{0, 100, false}, {200, 300, false}, {200, 201, false}, {99, 100, false}, {-5, -1, false}, {-5, 100, false}, {-5, 101, true},
		{math.MinInt64, math.MaxInt64, true}, {math.MaxInt64, math.MaxInt64, false}, {math.MinInt64, math.MinInt64, false},
	} {
		if got := m.Meets(c.from, c.to); got != c.want {
			t.Errorf("%d, %d: %v", c.from, c.to, got)
		}
	}
}

// K3, K4: no call changes what it is handed, or answers otherwise the second time.
func TestNothingChanges(t *testing.T) {
	for i, m := range append(good(), bad()...) {
		was := m
		was.Files, was.Sources = slices.Clone(m.Files), slices.Clone(m.Sources)
		first := string(Put(nil, m))
		if m.Check() != m.Check() || Encode(m) != Encode(m) || string(Put(nil, m)) != first {
			t.Errorf("%d: twice otherwise", i)
		}
		m.Lists(id(1))
		m.Meets(0, 1)
		if !same(m, was) {
			t.Errorf("%d: %+v has become %+v", i, was, m)
		}
	}
}

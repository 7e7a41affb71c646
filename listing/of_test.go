package listing

import (
	"slices"
	"testing"

	"barograph/ident"
	"barograph/meta"
)

// objects: a look that has these.
func objects(l map[string]string) func(string) (string, bool) {
	return func(name string) (string, bool) {
		s, there := l[name]
		return s, there
	}
}

// of: the name of a block's object.
func of(n int, part string) string {
	return ident.Object(id(n), part)
}

// P10.1: blocks with their metas, some marked, as they lie in a bucket.
func TestOf(t *testing.T) {
	a, b, c := block(1, 0, 100), block(2, 100, 200), block(3, 0, 200, id(1), id(2))
	bucket := map[string]string{
		of(1, ident.Meta): meta.Encode(a), of(1, ident.Chunks): "1", of(1, ident.Index): "", of(1, ident.Mark): meta.EncodeMark(id(1), 4),
		of(2, ident.Meta): meta.Encode(b), of(2, ident.Chunks): "2", of(2, ident.Index): "", of(2, ident.Mark): meta.EncodeMark(id(2), 0),
		of(3, ident.Meta): meta.Encode(c), of(3, ident.Chunks): "3", of(3, ident.Index): "",
		Name: Encode(three()),
	}
	want := New(77, []meta.Meta{a, b, c}, map[string]int{id(1): 4, id(2): 0})
	var l []string
	for name := range bucket {
		l = append(l, name)
	}
	slices.Sort(l)
	back := slices.Clone(l)
	slices.Reverse(back)
	for _, l := range [][]string{l, back, {of(3, ident.Meta), of(1, ident.Meta), of(2, ident.Meta)}} {
		if got := Of(77, l, objects(bucket)); !same(got, want) {
			t.Errorf("of %q: %+v", l, got)
		}
	}
	some := New(77, []meta.Meta{b}, map[string]int{id(2): 0})
	for _, l := range [][]string{{of(2, ident.Meta)}, {of(1, ident.Chunks), of(1, ident.Mark), of(2, ident.Meta), of(3, ident.Index), Name}} {
		if got := Of(77, l, objects(bucket)); !same(got, some) {
			t.Errorf("of %q: %+v", l, got)
		}
	}
	for _, l := range [][]string{nil, {}, {Name, "", "/", "x/meta", id(1), id(1) + "/", of(1, ident.Meta) + "/meta", of(1, ident.Mark), of(2, ident.Chunks)}} {
		if got := Of(77, l, objects(bucket)); !same(got, New(77, nil, nil)) {
			t.Errorf("of %q: %+v", l, got)
		}
	}
}

// P10.1: of what isn't a meta of that block, or a mark of it, nothing.
func TestOfWrong(t *testing.T) {
	a := block(1, 0, 100)
	good, mark := meta.Encode(a), meta.EncodeMark(id(1), 6)
	wrongLevel := block(1, 0, 100)
	wrongLevel.Level = 0
	alone := New(5, []meta.Meta{a}, nil)
	for _, c := range []struct {
		what    string
		objects map[string]string
		want    Listing
	}{
		{"both", map[string]string{of(1, ident.Meta): good, of(1, ident.Mark): mark}, New(5, []meta.Meta{a}, map[string]int{id(1): 6})},
		{"no mark", map[string]string{of(1, ident.Meta): good}, alone},
		{"another block's mark", map[string]string{of(1, ident.Meta): good, of(1, ident.Mark): meta.EncodeMark(id(2), 6)}, alone},
		{"a mark at another block", map[string]string{of(1, ident.Meta): good, of(2, ident.Mark): mark}, alone},
		{"a mark and a byte", map[string]string{of(1, ident.Meta): good, of(1, ident.Mark): mark + "x"}, alone},
		{"a mark cut off", map[string]string{of(1, ident.Meta): good, of(1, ident.Mark): mark[:20]}, alone},
		{"an empty mark", map[string]string{of(1, ident.Meta): good, of(1, ident.Mark): ""}, alone},
		{"a meta as mark", map[string]string{of(1, ident.Meta): good, of(1, ident.Mark): good}, alone},
		{"a mark too late", map[string]string{of(1, ident.Meta): good, of(1, ident.Mark): meta.EncodeMark(id(1), 1<<40+1)}, alone},
		{"no meta", map[string]string{of(1, ident.Mark): mark}, New(5, nil, nil)},
		{"another block's meta", map[string]string{of(1, ident.Meta): meta.Encode(block(2, 0, 100)), of(1, ident.Mark): mark}, New(5, nil, nil)},
		{"a meta and a byte", map[string]string{of(1, ident.Meta): good + "\x00", of(1, ident.Mark): mark}, New(5, nil, nil)},
		{"a meta cut off", map[string]string{of(1, ident.Meta): good[:40], of(1, ident.Mark): mark}, New(5, nil, nil)},
		{"an empty meta", map[string]string{of(1, ident.Meta): "", of(1, ident.Mark): mark}, New(5, nil, nil)},
		{"a mark as meta", map[string]string{of(1, ident.Meta): mark, of(1, ident.Mark): mark}, New(5, nil, nil)},
		{"a meta that may not be", map[string]string{of(1, ident.Meta): meta.Encode(wrongLevel), of(1, ident.Mark): mark}, New(5, nil, nil)},
	} {
		if got := Of(5, []string{of(1, ident.Meta), of(1, ident.Mark)}, objects(c.objects)); !same(got, c.want) {
			t.Errorf("%s: %+v", c.what, got)
		}
	}
}

// P10.1: where look says that it has nothing, its bytes play no part; it is asked for those objects alone.
func TestOfLook(t *testing.T) {
	a, b := block(1, 0, 100), block(2, 0, 100)
	bucket := map[string]string{
		of(1, ident.Meta): meta.Encode(a), of(1, ident.Mark): meta.EncodeMark(id(1), 6),
		of(2, ident.Meta): meta.Encode(b), of(2, ident.Mark): meta.EncodeMark(id(2), 7),
	}
	l := []string{of(1, ident.Meta), of(2, ident.Meta)}
	for hidden, want := range map[string]Listing{
		of(1, ident.Meta): New(5, []meta.Meta{b}, map[string]int{id(2): 7}),
		of(2, ident.Mark): New(5, []meta.Meta{a, b}, map[string]int{id(1): 6}),
	} {
		hides := func(name string) (string, bool) { return bucket[name], name != hidden }
		if got := Of(5, l, hides); !same(got, want) {
			t.Errorf("without %q: %+v", hidden, got)
		}
	}
	var asked []string
	notes := func(name string) (string, bool) {
		asked = append(asked, name)
		return bucket[name], true
	}
	Of(5, append([]string{Name, of(3, ident.Chunks), of(1, ident.Index)}, l...), notes)
	if want := []string{of(1, ident.Meta), of(1, ident.Mark), of(2, ident.Meta), of(2, ident.Mark)}; !slices.Equal(asked, want) {
		t.Errorf("asked for %q, not %q", asked, want)
	}
}

// K7: Of doesn't panic where look does: of that object there is nothing.
func TestOfLookPanics(t *testing.T) {
	a, b := block(1, 0, 100), block(2, 0, 100)
	panics := func(name string) (string, bool) {
		switch name {
		case of(1, ident.Meta):
			return meta.Encode(a), true
		case of(2, ident.Meta):
			return meta.Encode(b), true
		case of(2, ident.Mark):
			return meta.EncodeMark(id(2), 7), true
		}
		panic("nothing of " + name)
	}
	got := Of(5, []string{of(1, ident.Meta), of(3, ident.Meta), of(2, ident.Meta)}, panics)
	if want := New(5, []meta.Meta{a, b}, map[string]int{id(2): 7}); !same(got, want) {
		t.Errorf("%+v", got)
	}
}

// P10.1, K1: any tick; what isn't as it should be is told by Check.
func TestOfTicks(t *testing.T) {
	for _, at := range []int{-1, 0, 1, 1 << 40, 1<<40 + 1} {
		if got := Of(at, nil, objects(nil)); got.At != at {
			t.Errorf("%d: %+v", at, got)
		}
	}
}

// P10.1, P10.2: what is Of a bucket is a listing without an error, there and back.
func TestOfThereAndBack(t *testing.T) {
	for x := range uint32(100) {
		l := castListing(x)
		bucket := map[string]string{}
		var names []string
		for _, m := range l.Metas {
			name := ident.Object(m.ID, ident.Meta)
			bucket[name] = meta.Encode(m)
			names = append([]string{name}, names...)
		}
		for id, at := range l.Marks {
			bucket[ident.Object(id, ident.Mark)] = meta.EncodeMark(id, at)
		}
		got := Of(l.At, names, objects(bucket))
		if !same(got, l) {
			t.Errorf("%d: %+v", x, got)
		}
		decodes(t, "back", Encode(got), l, 0)
	}
}

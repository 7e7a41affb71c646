package sweep

import (
	"maps"
	"math"
	"slices"
	"testing"

	"barograph/bucket"
	"barograph/ident"
)

// id: the n-th block's name.
func id(n int) string {
	s, _ := ident.Make(33, n)
	return s
}

// of: the name of the n-th block's object.
func of(n int, part string) string {
	return ident.Object(id(n), part)
}

// info: an object that was put at a tick.
func info(name string, at int) bucket.Info {
	return bucket.Info{Name: name, Size: 3, At: at}
}

// whole: the four objects of the n-th block, put at a tick, by rising names.
func whole(n, at int) []bucket.Info {
	return []bucket.Info{info(of(n, ident.Chunks), at), info(of(n, ident.Index), at), info(of(n, ident.Mark), at), info(of(n, ident.Meta), at)}
}

// allOf: the names of all objects of the n-th block, in the order in which they are deleted.
func allOf(n int) []string {
	return []string{of(n, ident.Meta), of(n, ident.Index), of(n, ident.Chunks), of(n, ident.Mark)}
}

// plain: what the tests go by, where they don't say otherwise.
func plain() Config {
	return Config{Delay: 5, Grace: 7, Patience: 3}
}

// P22.1: which objects, in which order, at the tick 20: marked up to 14, or without a meta, and the first one put up to 12.
func TestVictims(t *testing.T) {
	chunks, index, mark, said := of(1, ident.Chunks), of(1, ident.Index), of(1, ident.Mark), of(1, ident.Meta)
	for _, c := range []struct {
		what  string
		l     []bucket.Info
		marks map[string]int
		want  []string
	}{
		{"no objects", nil, nil, nil},
		{"no objects, but marks", nil, map[string]int{id(1): 0}, nil},
		{"not marked", whole(1, 0), nil, nil},
		{"another one is marked", whole(1, 0), map[string]int{id(2): 0}, nil},
		{"marked now", whole(1, 0), map[string]int{id(1): 20}, nil},
		{"marked just Delay ago", whole(1, 0), map[string]int{id(1): 15}, nil},
		{"marked more than Delay ago", whole(1, 20), map[string]int{id(1): 14}, allOf(1)},
		{"marked at 0", whole(1, 20), map[string]int{id(1): 0}, allOf(1)},
		{"marked behind now", whole(1, 0), map[string]int{id(1): 1 << 40}, nil},
		{"marked, the meta gone", []bucket.Info{info(chunks, 20), info(index, 20), info(mark, 20)}, map[string]int{id(1): 14}, []string{index, chunks, mark}},
		{"marked, all but the mark gone", []bucket.Info{info(mark, 20)}, map[string]int{id(1): 14}, []string{mark}},
		{"marked, without a mark", []bucket.Info{info(chunks, 20), info(said, 20)}, map[string]int{id(1): 14}, []string{said, chunks}},
		{"marked just Delay ago, the meta gone for long", []bucket.Info{info(chunks, 0), info(index, 0), info(mark, 15)}, map[string]int{id(1): 15}, nil},
		{"no meta, put just Grace ago", []bucket.Info{info(chunks, 13)}, nil, nil},
		{"no meta, put more than Grace ago", []bucket.Info{info(chunks, 12)}, nil, []string{chunks}},
		{"no meta, put at 0", []bucket.Info{info(chunks, 0)}, nil, []string{chunks}},
		{"no meta, put now", []bucket.Info{info(chunks, 20), info(index, 20)}, nil, nil},
		{"no meta, the first one is old", []bucket.Info{info(chunks, 12), info(index, 20)}, nil, []string{index, chunks}},
		{"no meta, the last one is old", []bucket.Info{info(chunks, 20), info(index, 12)}, nil, []string{index, chunks}},
		{"no meta, the one between is old", []bucket.Info{info(chunks, 20), info(index, 12), info(mark, 20)}, nil, []string{index, chunks, mark}},
		{"no meta, none is old", []bucket.Info{info(chunks, 13), info(index, 14), info(mark, 13)}, nil, nil},
		{"no meta, a mark that says nothing", []bucket.Info{info(mark, 12)}, nil, []string{mark}},
		{"a meta alone", []bucket.Info{info(said, 0)}, nil, nil},
		{"a meta, a mark that says nothing", whole(1, 0)[2:], nil, nil},
		{"a meta, without files", []bucket.Info{info(said, 0), info(index, 0)}, nil, nil},
		{"another one's meta", []bucket.Info{info(chunks, 12), info(of(2, ident.Meta), 0)}, nil, []string{chunks}},
		{"no objects of blocks", []bucket.Info{
			info("index", 0), info("chunks", 0), info("meta", 0), info("x/chunks", 0), info("/chunks", 0), info(id(1), 0), info(of(1, ""), 0),
			info(of(1, "chunk"), 0), info(of(1, "chunksx"), 0), info(of(1, "chunks/"), 0), info("i"+chunks[1:], 0), info("0"+chunks, 0), info(chunks[1:], 0),
		}, nil, nil},
		{"what looks like a meta is none", []bucket.Info{info(chunks, 12), info(of(1, "metas"), 0), info("meta", 0)}, nil, []string{chunks}},
	} {
		if l := Victims(plain(), 20, c.l, c.marks); !slices.Equal(l, c.want) {
			t.Errorf("%s: %q, not %q", c.what, l, c.want)
		}
	}
}

// P22.1: block by block, by rising names, whatever the order of the objects; each block by what is so of it.
func TestVictimsOfMany(t *testing.T) {
	l := slices.Concat(whole(9, 0), whole(300, 0), whole(2, 0), whole(33, 0), whole(4, 0),
		[]bucket.Info{info(of(5, ident.Index), 12), info(of(5, ident.Chunks), 14), info(of(1, ident.Chunks), 13), info(of(70, ident.Chunks), 0), info("index", 0)})
	marks := map[string]int{id(9): 14, id(300): 0, id(2): 3, id(33): 15, id(6): 0}
	want := slices.Concat(allOf(2), []string{of(5, ident.Index), of(5, ident.Chunks)}, allOf(9), []string{of(70, ident.Chunks)}, allOf(300))
	r := rolls(1)
	for range 50 {
		if got := Victims(plain(), 20, l, marks); !slices.Equal(got, want) {
			t.Fatalf("%q, not %q", got, want)
		}
		for i := range l {
			j := r.below(i + 1)
			l[i], l[j] = l[j], l[i]
		}
	}
}

// P22.1: Delay and Grace are what is handed in, 0 as well; Patience plays no part.
func TestVictimsConfigs(t *testing.T) {
	for _, c := range []struct {
		cfg  Config
		now  int
		want []string
	}{
		{Config{}, 10, nil},
		{Config{}, 11, slices.Concat(allOf(1), []string{of(2, ident.Chunks)})},
		{Config{Delay: 1}, 11, []string{of(2, ident.Chunks)}},
		{Config{Grace: 1}, 11, allOf(1)},
		{Config{Delay: 1, Grace: 1, Patience: 100}, 11, nil},
		{Config{Delay: 1, Grace: 1, Patience: 100}, 12, slices.Concat(allOf(1), []string{of(2, ident.Chunks)})},
		{Config{Delay: 1 << 40, Grace: 3}, 1 << 40, []string{of(2, ident.Chunks)}},
		{Config{Delay: 1 << 40, Grace: 1 << 40}, 1<<40 + 10, nil},
		{Config{Delay: 1 << 40, Grace: 1 << 40}, 1<<40 + 11, slices.Concat(allOf(1), []string{of(2, ident.Chunks)})},
		{Config{Delay: math.MaxInt, Grace: math.MaxInt}, math.MaxInt, nil},
		{Config{}, 0, nil},
	} {
		l := append(whole(1, 0), info(of(2, ident.Chunks), 10))
		if got := Victims(c.cfg, c.now, l, map[string]int{id(1): 10}); !slices.Equal(got, c.want) {
			t.Errorf("%+v at %d: %q, not %q", c.cfg, c.now, got, c.want)
		}
	}
}

// K3: what is handed in stays as it is, and the answer is nobody else's.
func TestVictimsAreOwn(t *testing.T) {
	l, marks := slices.Concat(whole(2, 0), whole(1, 0)), map[string]int{id(1): 0, id(2): 0}
	want := slices.Concat(allOf(1), allOf(2))
	got := Victims(plain(), 20, l, marks)
	clear(got)
	_ = append(got[:0], "x")
	if again := Victims(plain(), 20, l, marks); !slices.Equal(again, want) {
		t.Errorf("again: %q, not %q", again, want)
	}
	if !slices.Equal(l, slices.Concat(whole(2, 0), whole(1, 0))) || !maps.Equal(marks, map[string]int{id(1): 0, id(2): 0}) {
		t.Errorf("what was handed in: %v, %v", l, marks)
	}
}

// K1, K7: of objects that are told twice, and of numbers that needn't be asked for, no call panics.
func TestOddVictims(t *testing.T) {
	twice := append(whole(1, 0), whole(1, 3)...)
	if l := Victims(plain(), 20, twice, map[string]int{id(1): 0}); !slices.Equal(l, allOf(1)) {
		t.Errorf("twice: %q", l)
	}
	odd := []int{math.MinInt, -1, 0, 1, math.MaxInt}
	for _, a := range odd {
		for _, b := range odd {
			Victims(Config{Delay: a, Grace: b, Patience: a}, b, append(whole(1, a), info(of(2, ident.Index), b), info("", a)), map[string]int{id(1): b, "": a})
		}
	}
}

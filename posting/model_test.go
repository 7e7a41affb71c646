package posting

import (
	"maps"
	"slices"
	"strconv"
	"testing"

	"barograph/label"
)

// rolls: numbers that follow from where they begin, and from nothing else.
type rolls uint64

func (r *rolls) below(n int) int {
	*r = *r*6364136223846793005 + 1442695040888963407
	return int(uint64(*r)>>33) % n
}

// plain: an index as the chapter says it, in the plainest way: all labels with which each series was added.
type plain map[int]label.Set

func (p plain) get(name, value string) List {
	var l List
	for n, s := range p {
		if slices.Contains(s, label.Pair{Name: name, Value: value}) {
			l = append(l, n)
		}
	}
	slices.Sort(l)
	return l
}

func (p plain) names() []string {
	seen := map[string]int{}
	for _, s := range p {
		for _, l := range s {
			seen[l.Name]++
		}
	}
	return slices.Sorted(maps.Keys(seen))
}

func (p plain) values(name string) []string {
	seen := map[string]int{}
	for _, s := range p {
		for _, l := range s {
			if l.Name == name {
				seen[l.Value]++
			}
		}
	}
	return slices.Sorted(maps.Keys(seen))
}

// castSet: some labels, good ones or not.
func (r *rolls) castSet() label.Set {
	var s label.Set
	for range r.below(4) {
		s = append(s, label.Pair{Name: []string{"", "a", "b", "c"}[r.below(4)], Value: []string{"", "1", "2", "x"}[r.below(4)]})
	}
	return s
}

// alike: does the index say what the plain one says?
func alike(t *testing.T, x *Index, p plain) {
	t.Helper()
	same(t, "All", x.All(), slices.Sorted(maps.Keys(p)))
	texts(t, "Names", x.Names(), p.names()...)
	for _, name := range []string{"", "a", "b", "c", "q"} {
		texts(t, "Values of "+name, x.Values(name), p.values(name)...)
		for _, value := range []string{"", "1", "2", "x", "q"} {
			same(t, name+"="+value, x.Get(name, value), p.get(name, value))
		}
	}
}

// P12.2: behind any Adds and Drops the index says what the plain one says; K4: each time the same.
func TestAnyCalls(t *testing.T) {
	for seed := range 60 {
		r, x, p := rolls(seed), New(), plain{}
		for range 80 {
			n := r.below(9) - 3
			if r.below(3) > 0 {
				s := r.castSet()
				x.Add(n, s)
				p[n] = append(slices.Clone(p[n]), s...)
			} else {
				x.Drop(n, append(slices.Clone(p[n]), r.castSet()...))
				delete(p, n)
			}
			alike(t, x, p)
			alike(t, x, p)
		}
		if t.Failed() {
			t.Fatalf("seed %d", seed)
		}
	}
}

// P12.3: each series that has a name is in the list of just one of its values, behind Drops, too.
func TestValuesPart(t *testing.T) {
	const many = 300
	r, x, having := rolls(3), New(), map[string]List{}
	for n := range many {
		var s label.Set
		for _, name := range []string{"a", "b", "c"} {
			if value := r.below(8); value > 0 {
				s = append(s, label.Pair{Name: name, Value: strconv.Itoa(value)})
			}
		}
		x.Add(n, s)
		if r.below(4) == 0 {
			x.Drop(n, s)
			continue
		}
		for _, l := range s {
			having[l.Name] = append(having[l.Name], n)
		}
	}
	for _, name := range x.Names() {
		var parts []List
		size := 0
		for _, value := range x.Values(name) {
			part := x.Get(name, value)
			if len(part) == 0 {
				t.Errorf("%s=%s has no series", name, value)
			}
			parts = append(parts, part)
			size += len(part)
		}
		same(t, "the parts of "+name, Any(parts...), having[name])
		if size != len(having[name]) {
			t.Errorf("%s: %d in all parts, not %d", name, size, len(having[name]))
		}
	}
	texts(t, "Names", x.Names(), "a", "b", "c")
}

// P1: many series, each with a value of its own, in whatever order, end soon.
func TestManySeries(t *testing.T) {
	const many = 10000
	x := New()
	var all List
	for i := range many {
		all = append(all, i)
		n := many - 1 - i
		x.Add(n, set("n", strconv.Itoa(n), "job", "api"))
	}
	same(t, "All", x.All(), all)
	same(t, "Get", x.Get("job", "api"), all)
	if l := x.Values("n"); len(l) != many || !slices.IsSorted(l) {
		t.Errorf("%d values", len(l))
	}
	for n := range many {
		x.Drop(n, set("n", strconv.Itoa(n), "job", "api"))
	}
	holdsNothing(t, x)
}

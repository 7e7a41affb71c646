package posting

import (
	"math"
	"slices"
	"testing"

	"barograph/label"
)

// set: labels of names and values in turn, whatever they are.
func set(l ...string) label.Set {
	var s label.Set
	for i := 0; i+1 < len(l); i += 2 {
		s = append(s, label.Pair{Name: l[i], Value: l[i+1]})
	}
	return s
}

// texts: are these the texts?
func texts(t *testing.T, what string, got []string, want ...string) {
	t.Helper()
	if !slices.Equal(got, want) {
		t.Errorf("%s: %q, not %q", what, got, want)
	}
}

// holdsNothing: is it as an index that is new?
func holdsNothing(t *testing.T, x *Index) {
	t.Helper()
	same(t, "All", x.All(), nil)
	same(t, "Get", x.Get("a", "1"), nil)
	texts(t, "Names", x.Names())
	texts(t, "Values", x.Values("a"))
}

// P12.2: no series.
func TestNew(t *testing.T) {
	x := New()
	holdsNothing(t, x)
	x.Drop(1, set("a", "1"))
	x.Drop(1, nil)
	holdsNothing(t, x)
	x.Add(1, set("a", "1"))
	holdsNothing(t, New())
}

// P12.2: series in any order of their numbers, each with its labels.
func TestAdd(t *testing.T) {
	x := New()
	x.Add(10, set("job", "api", "zone", "a"))
	x.Add(-2, set("job", "api", "zone", "b"))
	x.Add(8, set("job", "db"))
	x.Add(math.MinInt, set("job", "db", "zone", "b"))
	x.Add(0, nil)
	x.Add(math.MaxInt, set("z", "api"))
	same(t, "All", x.All(), List{math.MinInt, -2, 0, 8, 10, math.MaxInt})
	same(t, "job=api", x.Get("job", "api"), List{-2, 10})
	same(t, "job=db", x.Get("job", "db"), List{math.MinInt, 8})
	same(t, "zone=a", x.Get("zone", "a"), List{10})
	same(t, "zone=b", x.Get("zone", "b"), List{math.MinInt, -2})
	same(t, "z=api", x.Get("z", "api"), List{math.MaxInt})
	texts(t, "Names", x.Names(), "job", "z", "zone")
	texts(t, "Values of job", x.Values("job"), "api", "db")
	texts(t, "Values of zone", x.Values("zone"), "a", "b")
}

// P12.2: what no series has is of none, and not of those that haven't the name.
func TestGetNone(t *testing.T) {
	x := New()
	x.Add(1, set("a", "1"))
	x.Add(2, set("b", "1"))
	for _, p := range set("a", "", "a", "2", "a", "11", "", "", "", "1", "c", "", "c", "1", "A", "1") {
		same(t, p.Name+"="+p.Value, x.Get(p.Name, p.Value), nil)
	}
	for _, name := range []string{"", "c", "A", "aa"} {
		texts(t, "Values of "+name, x.Values(name))
	}
}

// P12.2: labels that layer 6 refuses are labels here, empty names and values among them.
func TestOddSets(t *testing.T) {
	x := New()
	x.Add(1, set("a", ""))
	x.Add(2, set("", "v"))
	x.Add(3, set("a", "1", "a", "2", "a", "1"))
	x.Add(4, set("b", "1", "a", "\xff", "b", "1"))
	x.Add(5, set("", ""))
	same(t, "a=", x.Get("a", ""), List{1})
	same(t, "=v", x.Get("", "v"), List{2})
	same(t, "=", x.Get("", ""), List{5})
	same(t, "a=1", x.Get("a", "1"), List{3})
	same(t, "a=2", x.Get("a", "2"), List{3})
	same(t, "b=1", x.Get("b", "1"), List{4})
	texts(t, "Names", x.Names(), "", "a", "b")
	texts(t, "Values of a", x.Values("a"), "", "1", "2", "\xff")
	texts(t, "Values of nothing", x.Values(""), "", "v")
	x.Drop(1, set("a", ""))
	x.Drop(3, set("a", "1", "a", "2", "a", "1"))
	x.Drop(5, set("", ""))
	texts(t, "Values of a behind Drop", x.Values("a"), "\xff")
	texts(t, "Values of nothing behind Drop", x.Values(""), "v")
	same(t, "All", x.All(), List{2, 4})
}

// P12.2: names and values rise byte by byte.
func TestRising(t *testing.T) {
	x := New()
	for i, s := range []string{"b", "B", "a10", "a2", "a", "_", "é", "\xff"} {
		x.Add(i, set(s, "1", "n", s))
	}
	texts(t, "Values", x.Values("n"), "B", "_", "a", "a10", "a2", "b", "é", "\xff")
	texts(t, "Names", x.Names(), "B", "_", "a", "a10", "a2", "b", "n", "é", "\xff")
}

// P12.2: what is added to a series comes to what it has.
func TestAddAgain(t *testing.T) {
	x := New()
	x.Add(1, set("a", "1"))
	x.Add(1, set("b", "2", "a", "1"))
	x.Add(1, nil)
	x.Add(1, set("a", "3"))
	same(t, "All", x.All(), List{1})
	same(t, "a=1", x.Get("a", "1"), List{1})
	same(t, "a=3", x.Get("a", "3"), List{1})
	same(t, "b=2", x.Get("b", "2"), List{1})
	x.Drop(1, set("a", "1", "b", "2", "a", "3"))
	holdsNothing(t, x)
}

// P12.2: a series that is dropped is in no list; names and values that no series has are gone.
func TestDrop(t *testing.T) {
	x := New()
	x.Add(1, set("a", "1", "b", "1"))
	x.Add(2, set("a", "1", "c", "1"))
	x.Add(3, set("a", "2"))
	x.Drop(1, set("a", "1", "b", "1"))
	same(t, "All", x.All(), List{2, 3})
	same(t, "a=1", x.Get("a", "1"), List{2})
	same(t, "b=1", x.Get("b", "1"), nil)
	texts(t, "Names", x.Names(), "a", "c")
	x.Drop(2, set("a", "1", "c", "1"))
	texts(t, "Names behind two", x.Names(), "a")
	texts(t, "Values behind two", x.Values("a"), "2")
	x.Drop(3, set("a", "2"))
	holdsNothing(t, x)
}

// P12.2: what isn't there, or another series', isn't touched by a Drop.
func TestDropOthers(t *testing.T) {
	x := New()
	x.Add(1, set("a", "1"))
	x.Add(3, nil)
	x.Drop(2, set("a", "1"))
	x.Drop(0, nil)
	same(t, "All", x.All(), List{1, 3})
	same(t, "a=1", x.Get("a", "1"), List{1})
	x.Drop(3, set("a", "1", "b", "9"))
	same(t, "All without 3", x.All(), List{1})
	same(t, "a=1 without 3", x.Get("a", "1"), List{1})
	texts(t, "Names", x.Names(), "a")
}

// P12.2: a series that was dropped has nothing left, and comes again with nothing of what it had.
func TestDropLeavesNothing(t *testing.T) {
	for _, dropped := range []label.Set{set("a", "1", "b", "2"), set("b", "2", "c", "3", "a", "1"), set("a", "1"), set("z", "1"), nil} {
		x := New()
		x.Add(1, set("a", "1"))
		x.Add(1, set("b", "2"))
		x.Drop(1, dropped)
		holdsNothing(t, x)
		x.Add(1, set("a", "7"))
		same(t, "a=1", x.Get("a", "1"), nil)
		same(t, "b=2", x.Get("b", "2"), nil)
		same(t, "a=7", x.Get("a", "7"), List{1})
		texts(t, "Names", x.Names(), "a")
		texts(t, "Values", x.Values("a"), "7")
	}
}

// K3: nothing that is handed in is changed or kept.
func TestSetsAreKeptApart(t *testing.T) {
	x := New()
	s := set("b", "2", "a", "1")
	x.Add(1, s)
	x.Add(2, s)
	if !slices.Equal(s, set("b", "2", "a", "1")) {
		t.Errorf("Add changed its set: %q", s)
	}
	s[0], s[1] = label.Pair{Name: "c", Value: "3"}, label.Pair{}
	same(t, "b=2", x.Get("b", "2"), List{1, 2})
	texts(t, "Names", x.Names(), "a", "b")
	s = set("b", "2", "a", "1")
	x.Drop(1, s)
	if !slices.Equal(s, set("b", "2", "a", "1")) {
		t.Errorf("Drop changed its set: %q", s)
	}
	x.Drop(2, s)
	holdsNothing(t, x)
}

// K3: what is answered isn't the index's own, and later calls don't change it.
func TestAnswersAreNew(t *testing.T) {
	x := New()
	for n := range 5 {
		x.Add(n, set("a", "1", "b", "2"))
	}
	all, some, names, values := x.All(), x.Get("a", "1"), x.Names(), x.Values("a")
	x.Drop(0, set("a", "1", "b", "2"))
	x.Add(-1, set("0", "1", "a", "0"))
	same(t, "All told", all, List{0, 1, 2, 3, 4})
	same(t, "Get told", some, List{0, 1, 2, 3, 4})
	texts(t, "Names told", names, "a", "b")
	texts(t, "Values told", values, "1")
	all, some, names, values = x.All(), x.Get("a", "1"), x.Names(), x.Values("a")
	all[0], some[0], names[0], values[0] = 77, 77, "77", "77"
	same(t, "All", x.All(), List{-1, 1, 2, 3, 4})
	same(t, "Get", x.Get("a", "1"), List{1, 2, 3, 4})
	texts(t, "Names", x.Names(), "0", "a", "b")
	texts(t, "Values", x.Values("a"), "0", "1")
}

// K3: what is appended to an answer isn't written into another one, or the index.
func TestAnswersShareNoRoom(t *testing.T) {
	x := New()
	x.Add(1, set("a", "1"))
	x.Add(2, set("a", "1"))
	x.Add(3, set("a", "1"))
	x.Drop(3, set("a", "1"))
	one, two := append(x.Get("a", "1"), 8), append(x.Get("a", "1"), 9)
	same(t, "one", one, List{1, 2, 8})
	same(t, "two", two, List{1, 2, 9})
	x.Add(4, set("a", "1"))
	same(t, "one behind Add", one, List{1, 2, 8})
	same(t, "Get", x.Get("a", "1"), List{1, 2, 4})
}

package posting

import (
	"math"
	"slices"
	"testing"
)

// same: do two lists have the same numbers?
func same(t *testing.T, what string, got, want List) {
	t.Helper()
	if !slices.Equal(got, want) {
		t.Errorf("%s: %v, not %v", what, got, want)
	}
}

// P12.1: the chapter's example, and lists of other lengths.
func TestLists(t *testing.T) {
	for _, c := range []struct {
		lists     []List
		both, any List
	}{
		{nil, nil, nil},
		{[]List{nil}, nil, nil},
		{[]List{{}, nil}, nil, nil},
		{[]List{{3}}, List{3}, List{3}},
		{[]List{{1, 2, 5}, {2, 3, 5}}, List{2, 5}, List{1, 2, 3, 5}},
		{[]List{{1, 2, 5}, {1, 2, 5}}, List{1, 2, 5}, List{1, 2, 5}},
		{[]List{{1, 2}, {3, 4}}, nil, List{1, 2, 3, 4}},
		{[]List{{3, 4}, {1, 2}}, nil, List{1, 2, 3, 4}},
		{[]List{{1, 2, 3, 4, 5}, {3}}, List{3}, List{1, 2, 3, 4, 5}},
		{[]List{{3}, {1, 2, 3, 4, 5}}, List{3}, List{1, 2, 3, 4, 5}},
		{[]List{{1, 2, 3}, nil}, nil, List{1, 2, 3}},
		{[]List{nil, {1, 2, 3}}, nil, List{1, 2, 3}},
		{[]List{{1, 2, 3}, {2, 3, 4}, {3, 4, 5}}, List{3}, List{1, 2, 3, 4, 5}},
		{[]List{{1, 3}, {1, 2, 3}, {2}, {0, 9}}, nil, List{0, 1, 2, 3, 9}},
		{[]List{{math.MinInt, -1, 0}, {-1, math.MaxInt}}, List{-1}, List{math.MinInt, -1, 0, math.MaxInt}},
	} {
		same(t, "Both", Both(c.lists...), c.both)
		same(t, "Any", Any(c.lists...), c.any)
	}
}

// P12.1: those of the first list alone.
func TestLess(t *testing.T) {
	for _, c := range []struct{ a, b, want List }{
		{nil, nil, nil},
		{nil, List{1}, nil},
		{List{1}, nil, List{1}},
		{List{1, 2, 5}, List{2, 3, 5}, List{1}},
		{List{2, 3, 5}, List{1, 2, 5}, List{3}},
		{List{1, 2, 5}, List{1, 2, 5}, nil},
		{List{1, 2, 3}, List{4, 5}, List{1, 2, 3}},
		{List{4, 5}, List{1, 2, 3}, List{4, 5}},
		{List{1, 5, 9}, List{2, 3, 4, 5, 6}, List{1, 9}},
		{List{math.MinInt, 0, math.MaxInt}, List{0}, List{math.MinInt, math.MaxInt}},
	} {
		same(t, "Less", Less(c.a, c.b), c.want)
	}
}

// cast: the numbers that a row of bits stands for.
func cast(bits int) List {
	var l List
	for i, n := range []int{math.MinInt, -3, 0, 7, math.MaxInt} {
		if bits>>i&1 == 1 {
			l = append(l, n)
		}
	}
	return l
}

// P12.1: each list of five numbers, with each other one, and with a third one.
func TestListsOfBits(t *testing.T) {
	const all = 32
	for a := range all {
		same(t, "Both of one", Both(cast(a)), cast(a))
		same(t, "Any of one", Any(cast(a)), cast(a))
		for b := range all {
			same(t, "Both of two", Both(cast(a), cast(b)), cast(a&b))
			same(t, "Any of two", Any(cast(a), cast(b)), cast(a|b))
			same(t, "Less", Less(cast(a), cast(b)), cast(a&^b))
			for c := range all {
				same(t, "Both of three", Both(cast(a), cast(b), cast(c)), cast(a&b&c))
				same(t, "Any of three", Any(cast(a), cast(b), cast(c)), cast(a|b|c))
			}
		}
	}
}

// P1: many lists, and long ones, end soon.
func TestManyLists(t *testing.T) {
	const many = 50000
	lists := make([]List, many)
	long := make(List, many)
	for i := range many {
		lists[i] = List{many - 1 - i}
		long[i] = i
	}
	same(t, "Any of many", Any(lists...), long)
	same(t, "Both of many", Both(lists...), nil)
	same(t, "Both of long ones", Both(long, long, long), long)
	same(t, "Less of long ones", Less(long, long[1:]), long[:1])
}

// P1, K7: lists that aren't as said are answered somehow.
func TestOddLists(t *testing.T) {
	odd := []List{{3, 1, 2}, {1, 1, 1}, {2, 1}, nil}
	for _, a := range odd {
		for _, b := range odd {
			Both(a, b, a)
			Any(a, b, a)
			Less(a, b)
		}
	}
}

// K3: nothing that is handed in changes, and no answer shares its memory.
func TestListsAreNew(t *testing.T) {
	a, b := List{1, 2, 3}, List{1, 2, 3}
	room := append(make(List, 0, 9), 1, 2)
	for _, c := range []struct {
		what string
		call func() List
	}{
		{"Both of one", func() List { return Both(a) }},
		{"Both of two", func() List { return Both(a, b) }},
		{"Any of one", func() List { return Any(a) }},
		{"Any of two", func() List { return Any(a, b) }},
		{"Any of one and none", func() List { return Any(nil, a) }},
		{"Less", func() List { return Less(a, nil) }},
		{"Both with room", func() List { return Both(room, a) }},
		{"Any with room", func() List { return Any(room, List{3}) }},
		{"Less with room", func() List { return Less(room, List{3}) }},
	} {
		got := c.call()
		for i := range got {
			got[i] = 99
		}
		same(t, c.what+": first list", a, List{1, 2, 3})
		same(t, c.what+": second list", b, List{1, 2, 3})
		same(t, c.what+": list with room", room[:3], List{1, 2, 0})
		if again := c.call(); len(again) != len(got) || slices.Contains(again, 99) {
			t.Errorf("%s: %v", c.what, again)
		}
	}
}

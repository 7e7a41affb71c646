package label

import (
	"slices"
	"strings"
	"testing"
)

// rising: lists of labels, each ahead of all behind it.
func rising() []Set {
	return []Set{
		nil,
		pairs("", ""),
		pairs("", "", "", ""),
		pairs("", "", "a", "1"),
		pairs("", "a"),
		pairs("A", "9"),
		pairs("_", "9"),
		pairs("a", ""),
		pairs("a", "1"),
		pairs("a", "1", "a", "1"),
		pairs("a", "1", "b", "1"),
		pairs("a", "1", "b", "1", "c", "1"),
		pairs("a", "1", "b", "2"),
		pairs("a", "1", "c", "1"),
		pairs("a", "10"),
		pairs("a", "10", "b", "1"),
		pairs("a", "1a", "a", "0"),
		pairs("a", "2"),
		pairs("a", "2", "b", "1"),
		pairs("a", "a"),
		pairs("a", "\x80"),
		pairs("a", "\xff"),
		pairs("a1", ""),
		pairs("aa", "0"),
		pairs("b", "0"),
		pairs("b", "0", "a", "0"),
		pairs("b", "0", "a", "1"),
		pairs("job", "api"),
		pairs("job", "api", "x", "1"),
		pairs("job2", "a"),
		many(9),
		many(10),
		pairs("\xff", "\xff"),
	}
}

// P6.1, P6.3: pair by pair, by names, then by values; a beginning comes first. So it is an order: any two are held against each other.
func TestCompare(t *testing.T) {
	l := rising()
	for i, a := range l {
		for j, b := range l {
			want := 0
			switch {
			case i < j:
				want = -1
			case i > j:
				want = 1
			}
			if got := Compare(a, slices.Clone(b)); got != want {
				t.Errorf("%q, %q: %d, not %d", a, b, got, want)
			}
		}
	}
}

// small: all lists of up to two pairs of a few names and values.
func small() []Set {
	var one []Pair
	for _, name := range []string{"", "a", "aa", "b"} {
		for _, value := range []string{"", "a", "\x01a", "b"} {
			one = append(one, Pair{name, value})
		}
	}
	l := []Set{nil}
	for _, p := range one {
		l = append(l, Set{p})
		for _, q := range one {
			l = append(l, Set{p, q})
		}
	}
	return l
}

// P6.3: the order holds of any three; two are alike only where they have the same pairs.
func TestCompareIsAnOrder(t *testing.T) {
	l := small()
	slices.SortFunc(l, Compare)
	for i, a := range l {
		for j, b := range l {
			got := Compare(a, b)
			if got != -Compare(b, a) || (got == 0) != slices.Equal(a, b) {
				t.Errorf("%q, %q: %d", a, b, got)
			}
			if (got < 0) != (i < j) {
				t.Errorf("%q, %q: %d, at %d and %d", a, b, got, i, j)
			}
		}
	}
}

// P6.3: no two lists of labels have one key; none's key begins another's.
func TestKeyTellsApart(t *testing.T) {
	l := append(small(), rising()...)
	for i, a := range l {
		for j, b := range l {
			alike := slices.Equal(a, b)
			if (a.Key() == b.Key()) != alike {
				t.Errorf("%d, %d: %q, %q: %x, %x", i, j, a, b, a.Key(), b.Key())
			}
			if !alike && strings.HasPrefix(a.Key(), b.Key()) {
				t.Errorf("%d, %d: %x begins %x", i, j, b.Key(), a.Key())
			}
		}
	}
}

package matcher

import (
	"slices"
	"strconv"
	"testing"

	"barograph/label"
	"barograph/posting"
)

// indexOf: sets, each that of the series whose number is its place.
func indexOf(sets ...label.Set) *posting.Index {
	x := posting.New()
	for n, s := range sets {
		x.Add(n, s)
	}
	return x
}

// someSets: sets with each pair of values of two names, or without them.
func someSets() []label.Set {
	var l []label.Set
	says := []string{"", "x", "xy", "y", "yx"}
	for _, a := range says {
		for _, b := range says {
			var s label.Set
			if a != "" {
				s = append(s, label.Pair{Name: "a", Value: a})
			}
			if b != "" {
				s = append(s, label.Pair{Name: "b", Value: b})
			}
			l = append(l, s)
		}
	}
	return l
}

// someMatchers: of each kind, of names that some sets have, or none.
func someMatchers() []Matcher {
	var l []Matcher
	says := []string{"", "x", "xy", "y", "q"}
	for _, name := range []string{"a", "b", "c"} {
		for _, v := range says {
			l = append(l, ask(Is, name, v), ask(IsNot, name, v))
			if v != "" {
				l = append(l, ask(Begins, name, v))
			}
			for _, w := range says {
				l = append(l, ask(Among, name, v, w))
			}
		}
	}
	return l
}

// matching: the series of sets that Match lets.
func matching(sets []label.Set, l ...Matcher) posting.List {
	var want posting.List
	for n, s := range sets {
		if Match(s, l...) {
			want = append(want, n)
		}
	}
	return want
}

// selects: does Select answer these?
func selects(t *testing.T, x *posting.Index, want posting.List, l ...Matcher) {
	t.Helper()
	for range 2 {
		if got := Select(x, l...); !slices.Equal(got, want) {
			t.Errorf("%s: %v, not %v", Format(l), got, want)
		}
	}
}

// P13.1, P13.2: of none all; of one and of two those that Match lets.
func TestSelectIsMatch(t *testing.T) {
	sets, matchers := someSets(), someMatchers()
	x := indexOf(sets...)
	selects(t, x, x.All())
	for _, m := range matchers {
		selects(t, x, matching(sets, m), m)
		for _, o := range matchers {
			selects(t, x, matching(sets, m, o), m, o)
		}
	}
}

// P13.2: of three and more matchers, too.
func TestSelectManyMatchers(t *testing.T) {
	sets, matchers := someSets(), someMatchers()
	x := indexOf(sets...)
	for i := range matchers {
		for j := range 9 {
			l := []Matcher{matchers[i], matchers[(i*7+j)%len(matchers)], matchers[(i+j*11)%len(matchers)], ask(IsNot, "b", "yx")}
			selects(t, x, matching(sets, l...), l...)
		}
	}
}

// P13.2: whatever came and went: numbers in any order, series without labels, series that were dropped.
func TestSelectBehindDrops(t *testing.T) {
	sets := someSets()
	x := posting.New()
	for n := len(sets) - 1; n >= 0; n-- {
		x.Add(n-5, sets[n])
	}
	for n := 0; n < len(sets); n += 3 {
		x.Drop(n-5, sets[n])
	}
	for _, m := range someMatchers() {
		var want posting.List
		for n, s := range sets {
			if n%3 > 0 && Match(s, m) {
				want = append(want, n-5)
			}
		}
		selects(t, x, want, m)
	}
}

// P13.2: a label without a value says what a name says that isn't there.
func TestSelectEmptyValues(t *testing.T) {
	sets := []label.Set{{{Name: "a", Value: ""}}, {{Name: "a", Value: "x"}}, {{Name: "b", Value: "x"}}, nil}
	x := indexOf(sets...)
	for _, m := range someMatchers() {
		selects(t, x, matching(sets, m), m)
	}
}

// P13.1: of an index without series none.
func TestSelectOfNone(t *testing.T) {
	x := posting.New()
	selects(t, x, nil)
	for _, m := range someMatchers() {
		selects(t, x, nil, m)
	}
}

// K3: what is answered isn't the index's own, nor is the index changed.
func TestSelectIsNew(t *testing.T) {
	sets := someSets()
	x := indexOf(sets...)
	for _, l := range [][]Matcher{nil, {ask(Is, "a", "x")}, {ask(IsNot, "q", "x")}, {ask(Is, "q", "")}} {
		got := Select(x, l...)
		for i := range got {
			got[i] = 99
		}
		selects(t, x, matching(sets, l...), l...)
	}
	if names := x.Names(); !slices.Equal(names, []string{"a", "b"}) || len(x.All()) != len(sets) {
		t.Errorf("%q, %v", names, x.All())
	}
}

// P1, P13.2: many series, each with a value of its own, and many matchers end soon.
func TestSelectOfMany(t *testing.T) {
	const many = 10000
	var sets []label.Set
	for n := range many {
		sets = append(sets, label.Set{{Name: "n", Value: strconv.Itoa(n)}})
	}
	x := indexOf(sets...)
	for _, l := range [][]Matcher{{ask(Is, "n", "77")}, {ask(IsNot, "n", "77")}, {ask(Begins, "n", "7")}, {ask(Among, "n", "", "5", "77")}, {ask(Is, "n", "")}, {ask(IsNot, "n", "")}} {
		if got := Select(x, l...); !slices.Equal(got, matching(sets, l...)) {
			t.Errorf("%s: %d series", Format(l), len(got))
		}
	}
	l := slices.Repeat([]Matcher{ask(Begins, "n", "1")}, 30)
	if got := Select(x, l...); !slices.Equal(got, matching(sets, l...)) {
		t.Errorf("%d series", len(got))
	}
}

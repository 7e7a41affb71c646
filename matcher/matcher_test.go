package matcher

import (
	"math"
	"slices"
	"strings"
	"testing"

	"barograph/api"
	"barograph/label"
)

var (
	text40 = strings.Repeat("x", 40)
	text41 = strings.Repeat("x", 41)
	text80 = strings.Repeat("é", 40)
)

// ask: a matcher.
func ask(kind int, name string, values ...string) Matcher {
	return Matcher{Kind: kind, Name: name, Values: values}
}

// copies: so many values.
func copies(n int, value string) []string {
	return slices.Repeat([]string{value}, n)
}

// P13.1: what may be a matcher, and what may not.
func TestCheck(t *testing.T) {
	good := []Matcher{
		ask(Is, "a", "1"), ask(IsNot, "a", "1"), ask(Begins, "a", "1"), ask(Among, "a", "1"),
		ask(Is, "a", ""), ask(IsNot, "a", ""), ask(Among, "a", ""), ask(Among, "a", "", "1", ""),
		ask(Is, text40, text40), ask(IsNot, text40, text40), ask(Begins, text40, text40), ask(Among, text40, text40, text40),
		ask(Among, "a", copies(10, "1")...), ask(Among, "a", copies(10, text40)...),
		ask(Is, "1 b\xff\x00", "\xff \x00~"), ask(Begins, "\xff", "\xff"), ask(Is, "é", "é"),
	}
	for _, m := range good {
		if err := m.Check(); err != api.OK {
			t.Errorf("%q: %d", m, err)
		}
	}
	bad := []Matcher{
		{}, ask(0, "a", "1"), ask(5, "a", "1"), ask(-1, "a", "1"), ask(math.MaxInt, "a", "1"), ask(math.MinInt, "a", "1"),
		ask(Is, "a"), ask(IsNot, "a"), ask(Begins, "a"), ask(Among, "a"), {Kind: Among, Name: "a", Values: []string{}},
		ask(Is, "a", "1", "2"), ask(IsNot, "a", "1", "1"), ask(Begins, "a", "1", "2"), ask(Among, "a", copies(11, "1")...),
		ask(Is, "", "1"), ask(IsNot, "", "1"), ask(Begins, "", "1"), ask(Among, "", "1"),
		ask(Is, text41, "1"), ask(IsNot, text80, "1"), ask(Begins, text41, "1"), ask(Among, text41, "1"),
		ask(Is, "a", text41), ask(IsNot, "a", text41), ask(Begins, "a", text80), ask(Among, "a", "1", text41),
		ask(Begins, "a", ""), ask(Among, "a", "1", "2", "a|b"),
	}
	for _, m := range bad {
		if err := m.Check(); err != api.ErrArg {
			t.Errorf("%q: %d", m, err)
		}
	}
}

// P13.1: of all bytes only = ! ^ @ , | may not stand in a name or a value, wherever.
func TestCheckEachByte(t *testing.T) {
	for i := range 256 {
		want := api.OK
		if strings.IndexByte("=!^@,|", byte(i)) >= 0 {
			want = api.ErrArg
		}
		for _, text := range []string{string([]byte{byte(i)}), string([]byte{byte(i), 'x'}), string([]byte{'x', byte(i)}), string([]byte{'x', byte(i), 'x'})} {
			for kind := Is; kind <= Among; kind++ {
				if err := ask(kind, text, "1").Check(); err != want {
					t.Errorf("kind %d, name %q: %d", kind, text, err)
				}
				if err := ask(kind, "a", text).Check(); err != want {
					t.Errorf("kind %d, value %q: %d", kind, text, err)
				}
			}
			if err := ask(Among, "a", "1", text, "2").Check(); err != want {
				t.Errorf("among: %q: %d", text, err)
			}
		}
	}
}

// P13.1: which values fit.
func TestFits(t *testing.T) {
	values := []string{"", "a", "ab", "abc", "b", "A", "ba", "\xff"}
	for _, c := range []struct {
		m    Matcher
		fits []string
	}{
		{ask(Is, "n", "a"), []string{"a"}},
		{ask(Is, "n", "ab"), []string{"ab"}},
		{ask(Is, "n", ""), []string{""}},
		{ask(Is, "n", "q"), nil},
		{ask(IsNot, "n", "a"), []string{"", "ab", "abc", "b", "A", "ba", "\xff"}},
		{ask(IsNot, "n", ""), []string{"a", "ab", "abc", "b", "A", "ba", "\xff"}},
		{ask(IsNot, "n", "q"), values},
		{ask(Begins, "n", "a"), []string{"a", "ab", "abc"}},
		{ask(Begins, "n", "ab"), []string{"ab", "abc"}},
		{ask(Begins, "n", "abcd"), nil},
		{ask(Begins, "n", "b"), []string{"b", "ba"}},
		{ask(Begins, "n", ""), []string{"a", "ab", "abc", "b", "A", "ba", "\xff"}},
		{ask(Among, "n", "a"), []string{"a"}},
		{ask(Among, "n", "b", "ab", "b"), []string{"ab", "b"}},
		{ask(Among, "n", "a", ""), []string{"", "a"}},
		{ask(Among, "n", ""), []string{""}},
		{ask(Among, "n", "q", "r"), nil},
		{ask(Among, "n", values...), values},
	} {
		for _, v := range values {
			if got := c.m.Fits(v); got != slices.Contains(c.fits, v) {
				t.Errorf("%q fits %q: %t", c.m, v, got)
			}
		}
	}
}

// P13.1: all must fit what the set's names say; what it hasn't says nothing.
func TestMatch(t *testing.T) {
	s := label.Set{{Name: "job", Value: "api"}, {Name: "zone", Value: "a"}}
	for _, c := range []struct {
		s    label.Set
		l    []Matcher
		want bool
	}{
		{s, nil, true},
		{nil, nil, true},
		{s, []Matcher{ask(Is, "job", "api")}, true},
		{s, []Matcher{ask(Is, "job", "a")}, false},
		{s, []Matcher{ask(Is, "job", "api"), ask(Begins, "zone", "a")}, true},
		{s, []Matcher{ask(Is, "job", "api"), ask(Begins, "zone", "b")}, false},
		{s, []Matcher{ask(Is, "job", "db"), ask(Begins, "zone", "a")}, false},
		{s, []Matcher{ask(Is, "job", "api"), ask(Is, "job", "db")}, false},
		{s, []Matcher{ask(Is, "q", "")}, true},
		{s, []Matcher{ask(IsNot, "q", "")}, false},
		{s, []Matcher{ask(IsNot, "q", "1")}, true},
		{s, []Matcher{ask(Is, "Job", "api")}, false},
		{s, []Matcher{ask(Among, "q", "1", "")}, true},
		{s, []Matcher{ask(Among, "job", "1", "")}, false},
		{s, []Matcher{ask(Among, "q", "1", "2")}, false},
		{s, []Matcher{ask(Begins, "q", "1")}, false},
		{nil, []Matcher{ask(Is, "job", "")}, true},
		{nil, []Matcher{ask(Is, "job", "api")}, false},
	} {
		if got := Match(c.s, c.l...); got != c.want {
			t.Errorf("%q, %q: %t", c.s, c.l, got)
		}
	}
}

// P13.1: of sets that layer 6 refuses, too: the first of several labels of a name is what it says.
func TestMatchOddSets(t *testing.T) {
	odd := label.Set{{Name: "b", Value: "2"}, {Name: "a", Value: "1"}, {Name: "b", Value: "3"}, {Name: "c", Value: ""}, {Name: "", Value: "x"}, {Name: "1=", Value: text80}}
	for text, want := range map[string]bool{
		"b=2": true, "b=3": false, "b!=2": false, "b!=3": true, "b^3": false, "b@1|3": false, "b@3|2": true,
		"a=1": true, "c=": true, "c!=": false, "c@|1": true, "c^1": false, "a=1,b=2,c=": true, "a=1,b=3,c=": false,
	} {
		l, err := Parse(text)
		if err != api.OK {
			t.Fatalf("%s: %d", text, err)
		}
		if got := Match(odd, l...); got != want {
			t.Errorf("%s: %t", text, got)
		}
	}
}

// P1, K7: matchers that Check refuses are answered somehow.
func TestOddMatchers(t *testing.T) {
	x := indexOf(someSets()...)
	for kind := -1; kind <= 6; kind++ {
		for _, values := range [][]string{nil, {}, {""}, {"a", "b"}, copies(12, "a")} {
			for _, name := range []string{"", "a", "=", text41} {
				m := ask(kind, name, values...)
				m.Check()
				m.Fits("")
				m.Fits("a")
				Match(nil, m, m)
				Match(someSets()[1], m, m)
				Select(x, m, m)
				Format([]Matcher{m, m})
			}
		}
	}
}

// K3: no call changes the matchers that are handed in, nor the set.
func TestNothingChanges(t *testing.T) {
	values := []string{"b", "a", "c", "a"}
	s := label.Set{{Name: "n", Value: "c"}, {Name: "a", Value: "1"}}
	l := []Matcher{ask(Among, "n", values...), ask(IsNot, "a", "2")}
	x := indexOf(s)
	l[0].Check()
	l[0].Fits("a")
	Match(s, l...)
	Select(x, l...)
	Format(l)
	if !slices.Equal(values, []string{"b", "a", "c", "a"}) || !slices.Equal(l[0].Values, values) || l[0].Name != "n" || l[1].Name != "a" {
		t.Errorf("%q, %q", l, values)
	}
	if !slices.Equal(s, label.Set{{Name: "n", Value: "c"}, {Name: "a", Value: "1"}}) {
		t.Errorf("%q", s)
	}
}

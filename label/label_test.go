package label

import (
	"slices"
	"strings"
	"testing"

	"barograph/api"
)

// pairs: names and values in turn.
func pairs(l ...string) Set {
	s := Set{}
	for i := 0; i < len(l); i += 2 {
		s = append(s, Pair{Name: l[i], Value: l[i+1]})
	}
	return s
}

// many: n pairs with rising names.
func many(n int) Set {
	s := Set{}
	for i := range n {
		s = append(s, Pair{Name: "n" + string([]byte{'a' + byte(i/26), 'a' + byte(i%26)}), Value: "v"})
	}
	return s
}

// is: is it this set, with this error?
func is(t *testing.T, what string, s Set, err api.Errno, wanted Set, wantedErr api.Errno) {
	t.Helper()
	if !slices.Equal(s, wanted) || err != wantedErr {
		t.Errorf("%s: %q, %d, not %q, %d", what, s, err, wanted, wantedErr)
	}
}

var (
	name40 = strings.Repeat("n", 40)
	name41 = strings.Repeat("n", 41)
	bytes  = "\x00\xff =|;\x80"
)

// good: sets that may be.
func good() []Set {
	return []Set{
		pairs("a", "1"),
		pairs("_", "1"),
		pairs("Z9_z0", "x y"),
		pairs(name40, name40),
		pairs("a", "="),
		pairs("a", bytes),
		pairs("a", strings.Repeat("\xff", 40)),
		pairs("A", "1", "Z", "1", "_", "1", "a", "1", "a0", "1", "aA", "1", "a_", "1", "aa", "1"),
		pairs("a", "2", "b", "1"),
		pairs("job", "api", "job2", "api"),
		many(7),
		many(8),
	}
}

// bad: lists of labels that may not be a set.
func bad() []Set {
	return []Set{
		nil,
		{},
		many(9),
		many(600),
		pairs("", "1"),
		pairs("a", ""),
		pairs("", ""),
		pairs(name41, "1"),
		pairs("a", name41),
		pairs("a", strings.Repeat("é", 20)+"x"),
		pairs("0a", "1"),
		pairs("é", "1"),
		pairs("a\x80", "1"),
		pairs("a", "1", "a", "1"),
		pairs("a", "1", "a", "2"),
		pairs("a", "2", "a", "1"),
		pairs("a", "1", "b", "1", "b", "1"),
		pairs("b", "1", "a", "1"),
		pairs("a", "1", "c", "1", "b", "1"),
		pairs("a", "1", "B", "1"),
		pairs("a", "1", "b", "", "c", "1"),
		pairs("a", "1", "b-", "1"),
		pairs(strings.Repeat("a", 300), strings.Repeat("b", 20000)),
	}
}

// P6.1: the chapter's examples.
func TestExamples(t *testing.T) {
	s, err := Parse("b=2,a=1")
	is(t, "b=2,a=1", s, err, pairs("a", "1", "b", "2"), api.OK)
	s, err = Parse("a=1,a=2")
	is(t, "a=1,a=2", s, err, nil, api.ErrLabel)
	s, err = Parse("a")
	is(t, "a", s, err, nil, api.ErrForm)
}

// P6.1: one to eight pairs, by rising names, each name once, each name and value as said.
func TestCheck(t *testing.T) {
	for _, s := range good() {
		if err := s.Check(); err != api.OK {
			t.Errorf("%q: %d", s, err)
		}
	}
	for _, s := range bad() {
		if err := s.Check(); err != api.ErrLabel {
			t.Errorf("%q: %d", s, err)
		}
	}
}

// P6.1: which bytes a name may have, first and behind; a value may have all.
func TestCheckBytes(t *testing.T) {
	const letters = "_abcdefghijklmnopqrstuvwxyzABCDEFGHIJKLMNOPQRSTUVWXYZ"
	verdict := func(ok bool) api.Errno {
		if ok {
			return api.OK
		}
		return api.ErrLabel
	}
	for i := range 256 {
		c := string([]byte{byte(i)})
		first := verdict(strings.Contains(letters, c))
		behind := verdict(strings.Contains(letters+"0123456789", c))
		for _, x := range []struct {
			name, value string
			want        api.Errno
		}{
			{c, "1", first},
			{c + "a", "1", first},
			{"a" + c, "1", behind},
			{"a" + c + "b", "1", behind},
			{strings.Repeat("a", 39) + c, "1", behind},
			{"a", c, api.OK},
			{"a", "x" + c, api.OK},
		} {
			if err := pairs(x.name, x.value).Check(); err != x.want {
				t.Errorf("%q %q: %d, not %d", x.name, x.value, err, x.want)
			}
		}
	}
}

// permuted: the list in each order.
func permuted(l []Pair) [][]Pair {
	if len(l) == 0 {
		return [][]Pair{nil}
	}
	var all [][]Pair
	for i := range l {
		rest := slices.Delete(slices.Clone(l), i, i+1)
		for _, p := range permuted(rest) {
			all = append(all, append(p, l[i]))
		}
	}
	return all
}

// P6.1: the pairs in any order are made the set.
func TestMake(t *testing.T) {
	for _, wanted := range []Set{pairs("a", "1"), pairs("a", "2", "b", "1"), pairs("A", "3", "_", "2", "a", "1", "aa", "0"), many(6)} {
		for _, l := range permuted(wanted) {
			s, err := Make(l...)
			is(t, "Make", s, err, wanted, api.OK)
		}
	}
	for _, wanted := range good() {
		back := slices.Clone(wanted)
		slices.Reverse(back)
		s, err := Make(back...)
		is(t, "Make", s, err, wanted, api.OK)
	}
}

// P6.1: what may not be is answered by rising names, too, beside Check's error.
func TestMakeErrors(t *testing.T) {
	s, err := Make()
	is(t, "of none", s, err, nil, api.ErrLabel)
	s, err = Make(pairs("b", "1", "", "2", "a", "")...)
	is(t, "no name", s, err, pairs("", "2", "a", "", "b", "1"), api.ErrLabel)
	back := many(9)
	slices.Reverse(back)
	s, err = Make(back...)
	is(t, "nine", s, err, many(9), api.ErrLabel)
	for _, l := range permuted(pairs("b", "1", "a", "2", "a", "1", "c", "0")) {
		s, err := Make(l...)
		first := s[:min(2, len(s))]
		if err != api.ErrLabel || len(s) != 4 || s.Get("b") != "1" || s.Get("c") != "0" ||
			!slices.Contains(first, Pair{"a", "1"}) || !slices.Contains(first, Pair{"a", "2"}) || s[2].Name != "b" {
			t.Errorf("%q: %q, %d", l, s, err)
		}
	}
}

// K3: Make changes nothing that it is handed, and what it answers shares no memory with that.
func TestMakeIsNew(t *testing.T) {
	for _, sorted := range []bool{false, true} {
		l := pairs("b", "2", "a", "1")
		if sorted {
			l = pairs("a", "1", "b", "2")
		}
		was := slices.Clone(l)
		s, _ := Make(l...)
		if !slices.Equal(l, was) {
			t.Errorf("Make changed its pairs: %q", l)
		}
		s[0] = Pair{"x", "y"}
		if !slices.Equal(l, was) {
			t.Error("what Make answers is what it was handed")
		}
		l[0], l[1] = Pair{"q", "q"}, Pair{"q", "q"}
		if s[1] != (Pair{"b", "2"}) {
			t.Error("what Make was handed is what it answers")
		}
	}
}

// P6.1: the value of the first pair of that name, of any pairs.
func TestGet(t *testing.T) {
	s := pairs("b", "2", "a", "1", "b", "3", "", "4", "c", "", "c", "5")
	for name, want := range map[string]string{"a": "1", "b": "2", "": "4", "c": "", "d": "", "A": "", "aa": ""} {
		if got := s.Get(name); got != want {
			t.Errorf("%q: %q, not %q", name, got, want)
		}
	}
	for _, s := range []Set{nil, {}} {
		if s.Get("") != "" || s.Get("a") != "" {
			t.Error("of no pairs")
		}
	}
}

// K1: nil and no pairs are the same.
func TestNilIsEmpty(t *testing.T) {
	none, empty := Set(nil), Set{}
	if none.Key() != empty.Key() || none.String() != empty.String() || none.Check() != empty.Check() || Compare(none, empty) != 0 || Compare(empty, none) != 0 {
		t.Error("they differ")
	}
	a, errA := Make(none...)
	b, errB := Make(empty...)
	if len(a) != 0 || len(b) != 0 || errA != errB {
		t.Error("Make: they differ")
	}
}

// K3: no call changes the set that it is asked of.
func TestSetsStay(t *testing.T) {
	for _, s := range append(good(), bad()...) {
		was := slices.Clone(s)
		s.Check()
		s.Get("a")
		s.Key()
		_ = s.String()
		Compare(s, many(3))
		Compare(many(3), s)
		if !slices.Equal(s, was) {
			t.Errorf("%q was %q", s, was)
		}
	}
}

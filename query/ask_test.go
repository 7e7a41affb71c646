package query

import (
	"math"
	"slices"
	"testing"

	"barograph/api"
	"barograph/label"
	"barograph/matcher"
	"barograph/merge"
)

// set: the labels of a text.
func set(s string) label.Set {
	l, _ := label.Parse(s)
	return l
}

// row: labels, and samples whose values are seven times their times.
func row(s string, times ...int64) merge.Row {
	r := merge.Row{Labels: set(s)}
	for _, at := range times {
		r.Samples = append(r.Samples, api.Sample{T: at, V: uint64(7 * at)})
	}
	return r
}

// valued: labels, and one sample.
func valued(s string, at int64, v uint64) merge.Row {
	return merge.Row{Labels: set(s), Samples: []api.Sample{{T: at, V: v}}}
}

// asks: what is asked for, of matchers' text.
func asks(from, to int64, s string) Ask {
	l, _ := matcher.Parse(s)
	return Ask{From: from, To: to, Match: l}
}

// equal: have two tables the same rows?
func equal(a, b []merge.Row) bool {
	return slices.EqualFunc(a, b, func(x, y merge.Row) bool {
		return slices.Equal(x.Labels, y.Labels) && slices.Equal(x.Samples, y.Samples)
	})
}

// P23.1: an ask's error is the first one of a matcher; its times have none.
func TestCheck(t *testing.T) {
	good := matcher.Matcher{Kind: matcher.Is, Name: "a", Values: []string{"1"}}
	for _, c := range []struct {
		what string
		ask  Ask
		want api.Errno
	}{
		{"nothing", Ask{}, api.OK},
		{"no matchers, an empty list", Ask{Match: []matcher.Matcher{}}, api.OK},
		{"one", Ask{To: 9, Match: []matcher.Matcher{good}}, api.OK},
		{"the same twice", Ask{Match: []matcher.Matcher{good, good}}, api.OK},
		{"times that fall", Ask{From: 9, To: 3}, api.OK},
		{"all times", Ask{From: math.MinInt64, To: math.MaxInt64, Match: []matcher.Matcher{good}}, api.OK},
		{"no kind", Ask{Match: []matcher.Matcher{{Name: "a", Values: []string{"1"}}}}, api.ErrArg},
		{"the last one", Ask{Match: []matcher.Matcher{good, good, {Kind: matcher.Begins, Name: "a", Values: []string{""}}}}, api.ErrArg},
		{"the first one", Ask{Match: []matcher.Matcher{{}, good}}, api.ErrArg},
		{"the one between", Ask{Match: []matcher.Matcher{good, {Kind: matcher.Among, Name: "a"}, good}}, api.ErrArg},
	} {
		if got := c.ask.Check(); got != c.want {
			t.Errorf("%s: %d, not %d", c.what, got, c.want)
		}
	}
}

// P23.1: what of a table is asked for: the series that all matchers fit, from one time on, ahead of another one.
func TestOf(t *testing.T) {
	table := []merge.Row{row("a=1", 10, 20, 30), row("a=1,b=1", 15), row("a=2", 20), row("b=1", 25)}
	for _, c := range []struct {
		what string
		ask  Ask
		want []merge.Row
	}{
		{"all", asks(0, 100, ""), table},
		{"all times that there are", asks(math.MinInt64, math.MaxInt64, ""), table},
		{"no times", asks(20, 20, ""), nil},
		{"times that fall", asks(30, 10, ""), nil},
		{"the zero ask", Ask{}, nil},
		{"from on", asks(20, 100, "a=1,b="), []merge.Row{row("a=1", 20, 30)}},
		{"from behind", asks(21, 100, "a=1,b="), []merge.Row{row("a=1", 30)}},
		{"ahead of", asks(0, 20, "a=1,b="), []merge.Row{row("a=1", 10)}},
		{"up to", asks(0, 21, "a=1,b="), []merge.Row{row("a=1", 10, 20)}},
		{"one time", asks(20, 21, ""), []merge.Row{row("a=1", 20), row("a=2", 20)}},
		{"one matcher", asks(0, 100, "a=1"), table[:2]},
		{"two matchers", asks(0, 100, "a=1,b=1"), table[1:2]},
		{"what hasn't the name", asks(0, 100, "a="), table[3:]},
		{"what isn't the value", asks(0, 100, "b!=1"), []merge.Row{table[0], table[2]}},
		{"none", asks(0, 100, "c=1"), nil},
	} {
		if got := c.ask.Of(table); !equal(got, c.want) {
			t.Errorf("%s: %v, not %v", c.what, got, c.want)
		}
	}
	empty := []merge.Row{row("a=1"), row("a=2", 5)}
	if got := asks(0, 100, "").Of(empty); !equal(got, empty[1:]) {
		t.Errorf("a row without samples: %v", got)
	}
	if got := asks(0, 100, "").Of(nil); len(got) != 0 {
		t.Errorf("no table: %v", got)
	}
}

// K3: Of changes neither ask nor table, and what it answers shares nothing with the table.
func TestOfShared(t *testing.T) {
	table := []merge.Row{row("a=1", 10, 20), row("a=2", 20)}
	a := asks(0, 100, "a@2|1")
	got := a.Of(table)
	for _, r := range got {
		r.Labels[0] = label.Pair{Name: "z", Value: "z"}
		clear(r.Samples)
	}
	clear(got)
	if !equal(table, []merge.Row{row("a=1", 10, 20), row("a=2", 20)}) || matcher.Format(a.Match) != "a@2|1" {
		t.Errorf("%v, %v", table, a)
	}
}

// K7: of matchers that have an error Of answers, too.
func TestOfOdd(t *testing.T) {
	for _, m := range []matcher.Matcher{{}, {Kind: matcher.Is}, {Kind: matcher.Begins, Name: "a"}, {Kind: 9, Name: "a", Values: []string{"1"}}} {
		a := Ask{To: 100, Match: []matcher.Matcher{m}}
		if a.Check() == api.OK {
			t.Errorf("%v: no error", m)
		}
		a.Of([]merge.Row{row("a=1", 10)})
	}
}

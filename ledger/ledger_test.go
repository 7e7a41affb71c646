package ledger

import (
	"slices"
	"testing"

	"barograph/api"
	"barograph/head"
	"barograph/label"
	"barograph/matcher"
	"barograph/merge"
	"barograph/query"
)

// set: the labels of a text; none of an empty one.
func set(s string) label.Set {
	l, _ := label.Parse(s)
	return l
}

// valued: a point of a time and a value.
func valued(s string, at int64, v uint64) head.Point {
	return head.Point{Labels: set(s), S: api.Sample{T: at, V: v}}
}

// points: one of each of these times, whose value is that time.
func points(s string, times ...int64) []head.Point {
	var l []head.Point
	for _, at := range times {
		l = append(l, valued(s, at, uint64(at)))
	}
	return l
}

// row: labels, and samples whose values are their times.
func row(s string, times ...int64) merge.Row {
	return rowOf(points(s, times...)...)
}

// rowOf: points of one series as a row.
func rowOf(l ...head.Point) merge.Row {
	var r merge.Row
	for _, p := range l {
		r.Labels = p.Labels
		r.Samples = append(r.Samples, p.S)
	}
	return r
}

// equal: have two tables the same rows?
func equal(a, b []merge.Row) bool {
	return slices.EqualFunc(a, b, func(x, y merge.Row) bool {
		return slices.Equal(x.Labels, y.Labels) && slices.Equal(x.Samples, y.Samples)
	})
}

// is: has a ledger this, and that, and so many open points?
func is(t *testing.T, what string, l *Ledger, open int, sure, may []merge.Row) {
	t.Helper()
	if got := l.Sure(); !equal(got, sure) {
		t.Errorf("%s: sure %v, not %v", what, got, sure)
	}
	if got := l.May(); !equal(got, may) {
		t.Errorf("%s: may %v, not %v", what, got, may)
	}
	if l.Open() != open {
		t.Errorf("%s: %d open, not %d", what, l.Open(), open)
	}
	if !Within(l.Sure(), l.May()) {
		t.Errorf("P25.2: %s: %v, %v", what, l.Sure(), l.May())
	}
}

// ends: did a call end so?
func ends(t *testing.T, what string, got, wanted api.Errno) {
	t.Helper()
	if got != wanted {
		t.Errorf("%s: %d, not %d", what, got, wanted)
	}
}

// known: a ledger of what is there, and of what was tried.
func known(done, tried []head.Point) *Ledger {
	l := &Ledger{}
	l.Done(done...)
	l.Tried(tried...)
	return l
}

// P25.1: the chapter's example.
func TestExample(t *testing.T) {
	for _, x := range []struct {
		times []int64
		want  api.Errno
	}{{[]int64{5, 6}, api.OK}, {[]int64{5, 7}, api.ErrOrder}, {[]int64{6}, api.ErrNone}} {
		l := known(points("a=1", 5), points("a=1", 6, 7))
		ends(t, "Settle", l.Settle([]merge.Row{row("a=1", x.times...)}), x.want)
	}
}

// P25.1: the zero ledger has nothing.
func TestZero(t *testing.T) {
	l := &Ledger{}
	is(t, "zero", l, 0, nil, nil)
	l.Done()
	l.Tried()
	is(t, "of no points", l, 0, nil, nil)
	ends(t, "Settle", l.Settle(nil), api.OK)
	ends(t, "Settle", l.Settle([]merge.Row{row("a=1", 5)}), api.ErrThere)
	ends(t, "Answers", l.Answers(query.Ask{To: 9}, nil, nil), api.OK)
	ends(t, "Answers", l.Answers(query.Ask{To: 9}, nil, []merge.Row{row("a=1", 5)}), api.ErrThere)
	ends(t, "Answers", l.Answers(query.Ask{To: 9}, []merge.Row{row("a=1", 5)}, nil), api.ErrNone)
	is(t, "zero", l, 0, nil, nil)
}

// P25.1: Done: by rising labels and times, whatever comes first; of one time of a series the one that is there.
func TestDone(t *testing.T) {
	l := &Ledger{}
	l.Done(points("b=1", 5, 3)...)
	l.Done(points("a=1,b=1", 9)...)
	l.Done(append(points("a=1", 7, 1, 4), points("b=1", 4)...)...)
	want := []merge.Row{row("a=1", 1, 4, 7), row("a=1,b=1", 9), row("b=1", 3, 4, 5)}
	is(t, "done", l, 0, want, want)
	l.Done(valued("a=1", 4, 99), valued("a=1", 5, 55), valued("a=1", 5, 66), valued("c=1", 4, 44))
	want = []merge.Row{rowOf(append(points("a=1", 1, 4), valued("a=1", 5, 55), valued("a=1", 7, 7))...), row("a=1,b=1", 9), row("b=1", 3, 4, 5), rowOf(valued("c=1", 4, 44))}
	is(t, "one time", l, 0, want, want)
}

// P25.1: Tried: behind the others; of one time what must be there, else what was tried first.
func TestTried(t *testing.T) {
	l := &Ledger{}
	l.Tried(valued("a=1", 5, 1), valued("a=1", 5, 2), valued("b=1", 3, 3))
	is(t, "tried", l, 3, nil, []merge.Row{rowOf(valued("a=1", 5, 1)), row("b=1", 3)})
	l.Tried(valued("a=1", 5, 3), valued("a=1", 4, 4))
	is(t, "more", l, 5, nil, []merge.Row{rowOf(valued("a=1", 4, 4), valued("a=1", 5, 1)), row("b=1", 3)})
	l.Done(valued("a=1", 5, 9))
	is(t, "one of them is there otherwise", l, 5, []merge.Row{rowOf(valued("a=1", 5, 9))}, []merge.Row{rowOf(valued("a=1", 4, 4), valued("a=1", 5, 9)), row("b=1", 3)})
	l.Done(valued("a=1", 4, 4))
	is(t, "one of them is there", l, 5, []merge.Row{rowOf(valued("a=1", 4, 4), valued("a=1", 5, 9))}, []merge.Row{rowOf(valued("a=1", 4, 4), valued("a=1", 5, 9)), row("b=1", 3)})
	l.Tried(points("_=1", 1)...)
	if l.Open() != 6 {
		t.Errorf("%d open", l.Open())
	}
}

// P25.1: Within: each sample: its labels, its time, its value.
func TestWithin(t *testing.T) {
	great := []merge.Row{row("a=1", 1, 5, 9), row("a=1,b=1", 2), row("b=1", 3)}
	for i, x := range []struct {
		small []merge.Row
		want  bool
	}{
		{nil, true}, {great, true}, {[]merge.Row{row("a=1", 1)}, true}, {[]merge.Row{row("a=1", 9)}, true}, {[]merge.Row{row("a=1", 1, 9), row("b=1", 3)}, true},
		{[]merge.Row{row("a=1,b=1", 2)}, true}, {[]merge.Row{row("b=1", 3)}, true}, {[]merge.Row{{Labels: set("c=1")}, {Labels: set("d=1")}}, true},
		{[]merge.Row{row("a=1", 2)}, false}, {[]merge.Row{row("a=1", 1, 2)}, false}, {[]merge.Row{row("a=1", 1, 5, 9, 10)}, false}, {[]merge.Row{row("a=1", 0, 1)}, false},
		{[]merge.Row{row("c=1", 1)}, false}, {[]merge.Row{row("a=2", 1)}, false}, {[]merge.Row{row("a=1", 1), row("c=1", 3)}, false},
		{[]merge.Row{rowOf(valued("a=1", 5, 6))}, false}, {[]merge.Row{row("a=1,b=1", 3)}, false}, {[]merge.Row{row("a=1", 1, 5, 9), row("b=1", 2)}, false},
	} {
		if got := Within(x.small, great); got != x.want {
			t.Errorf("%d: %v", i, got)
		}
		if got := Within(x.small, nil); got != (merge.Count(x.small) == 0) {
			t.Errorf("%d, in nothing: %v", i, got)
		}
	}
}

// P25.1, P25.3: Settle: what may be there, and what may not; with an error nothing has changed.
func TestSettle(t *testing.T) {
	done := append(points("a=1", 5, 6), points("b=1", 5)...)
	tried := slices.Concat(points("a=1", 7), points("c=1", 1), points("b=1", 8), points("a=1", 9, 11), points("c=1", 2))
	sure := []merge.Row{row("a=1", 5, 6), row("b=1", 5)}
	may := []merge.Row{row("a=1", 5, 6, 7, 9, 11), row("b=1", 5, 8), row("c=1", 1, 2)}
	for i, x := range []struct {
		now  []merge.Row
		want api.Errno
	}{
		{sure, api.OK}, {may, api.OK},
		{[]merge.Row{row("a=1", 5, 6, 7), row("b=1", 5)}, api.OK}, {[]merge.Row{row("a=1", 5, 6, 7, 9), row("b=1", 5), row("c=1", 1)}, api.OK}, {[]merge.Row{row("a=1", 5, 6), row("b=1", 5, 8), row("c=1", 1, 2)}, api.OK},

		{[]merge.Row{row("a=1", 5, 6, 9), row("b=1", 5)}, api.ErrOrder}, {[]merge.Row{row("a=1", 5, 6, 11), row("b=1", 5)}, api.ErrOrder},
		{[]merge.Row{row("a=1", 5, 6, 7, 11), row("b=1", 5)}, api.ErrOrder}, {[]merge.Row{row("a=1", 5, 6), row("b=1", 5), row("c=1", 2)}, api.ErrOrder},

		{[]merge.Row{row("a=1", 5, 6, 8), row("b=1", 5)}, api.ErrThere}, {[]merge.Row{row("a=1", 5, 6), row("b=1", 5), row("d=1", 5)}, api.ErrThere},
		{[]merge.Row{row("a=1", 1, 5, 6), row("b=1", 5)}, api.ErrThere}, {[]merge.Row{rowOf(append(points("a=1", 5, 6), valued("a=1", 7, 8))...), row("b=1", 5)}, api.ErrThere},
		{[]merge.Row{row("a=1", 5, 6, 9, 12), row("b=1", 5)}, api.ErrThere}, {[]merge.Row{row("a=1", 5, 6), row("b=1", 5), row("c=1", 1, 2, 3)}, api.ErrThere},

		{nil, api.ErrNone}, {[]merge.Row{row("a=1", 5, 6)}, api.ErrNone}, {[]merge.Row{row("a=1", 6), row("b=1", 5)}, api.ErrNone}, {[]merge.Row{row("a=1", 5, 6, 7), row("b=1", 8)}, api.ErrNone},
		{[]merge.Row{rowOf(valued("a=1", 5, 4), valued("a=1", 6, 6)), row("b=1", 5)}, api.ErrNone}, {[]merge.Row{row("a=1", 5), row("b=1", 5), row("d=1", 3)}, api.ErrNone}, {[]merge.Row{row("a=1", 9), row("b=1", 5)}, api.ErrNone},

		{[]merge.Row{row("b=1", 5), row("a=1", 5, 6)}, api.ErrForm}, {[]merge.Row{row("a=1", 6, 5), row("b=1", 5)}, api.ErrForm}, {[]merge.Row{row("a=1", 5, 6), row("a=1", 7), row("b=1", 5)}, api.ErrForm},
		{[]merge.Row{row("a=1", 5, 5, 6), row("b=1", 5)}, api.ErrForm}, {[]merge.Row{row("b=1", 9), row("a=1", 3)}, api.ErrForm},
	} {
		l := known(done, tried)
		ends(t, "Settle", l.Settle(x.now), x.want)
		if x.want == api.OK {
			is(t, "settled", l, 0, x.now, x.now)
			ends(t, "Settle", l.Settle(x.now), api.OK)
		} else {
			is(t, "not settled", l, len(tried), sure, may)
			ends(t, "Settle", l.Settle(may), api.OK)
		}
		if t.Failed() {
			t.Fatalf("%d", i)
		}
	}
}

// P25.1: Settle where points of one time were tried, or are there otherwise.
func TestSettleOneTime(t *testing.T) {
	for i, x := range []struct {
		done, tried []head.Point
		now         merge.Row
		want        api.Errno
	}{
		{nil, []head.Point{valued("a=1", 5, 1), valued("a=1", 5, 2)}, rowOf(valued("a=1", 5, 1)), api.OK},
		{nil, []head.Point{valued("a=1", 5, 1), valued("a=1", 5, 2)}, rowOf(valued("a=1", 5, 2)), api.ErrThere},
		{nil, []head.Point{valued("a=1", 5, 1), valued("a=1", 5, 1), valued("a=1", 6, 6)}, rowOf(valued("a=1", 5, 1), valued("a=1", 6, 6)), api.OK},
		{nil, []head.Point{valued("a=1", 5, 1), valued("a=1", 5, 2), valued("a=1", 6, 6)}, rowOf(valued("a=1", 5, 1), valued("a=1", 6, 6)), api.ErrOrder},
		{points("a=1", 5), []head.Point{valued("a=1", 5, 1), valued("a=1", 6, 6)}, row("a=1", 5, 6), api.ErrOrder},
		{points("a=1", 5), []head.Point{valued("a=1", 5, 1), valued("a=1", 6, 6)}, row("a=1", 5), api.OK},
		{points("a=1", 5), points("a=1", 5, 6), row("a=1", 5, 6), api.OK},
		{points("a=1", 5), points("a=1", 4, 5), row("a=1", 5), api.ErrOrder},
		{points("a=1", 5), points("a=1", 4, 5), row("a=1", 4, 5), api.OK},
	} {
		if err := known(x.done, x.tried).Settle([]merge.Row{x.now}); err != x.want {
			t.Errorf("%d: %d, not %d", i, err, x.want)
		}
	}
}

// P25.1: behind Settle it goes on: what is there must be, and what is tried then is open.
func TestSettleThen(t *testing.T) {
	l := known(points("a=1", 5), points("a=1", 6, 7))
	ends(t, "Settle", l.Settle([]merge.Row{row("a=1", 5, 6)}), api.OK)
	l.Tried(points("a=1", 8)...)
	l.Done(points("b=1", 1)...)
	is(t, "then", l, 1, []merge.Row{row("a=1", 5, 6), row("b=1", 1)}, []merge.Row{row("a=1", 5, 6, 8), row("b=1", 1)})
	ends(t, "what was open once", l.Settle([]merge.Row{row("a=1", 5, 6, 7), row("b=1", 1)}), api.ErrThere)
	ends(t, "what was open, and there", l.Settle([]merge.Row{row("a=1", 5), row("b=1", 1)}), api.ErrNone)
	ends(t, "Settle", l.Settle([]merge.Row{row("a=1", 5, 6, 8), row("b=1", 1)}), api.OK)
}

// P25.1: Answers: of an ask what had to be there, and nothing that may not be.
func TestAnswers(t *testing.T) {
	l := known(slices.Concat(points("a=1", 5, 6, 20), points("b=1", 5)), slices.Concat(points("a=1", 7, 9), points("c=1", 6)))
	low := []merge.Row{row("a=1", 5, 6, 20)}
	m, _ := matcher.Parse("b!=1")
	ask := query.Ask{From: 5, To: 20, Match: m}
	for i, x := range []struct {
		got  []merge.Row
		want api.Errno
	}{
		{[]merge.Row{row("a=1", 5, 6)}, api.OK}, {[]merge.Row{row("a=1", 5, 6, 7)}, api.OK}, {[]merge.Row{row("a=1", 5, 6, 9), row("c=1", 6)}, api.OK}, {[]merge.Row{row("a=1", 5, 6), {Labels: set("b=1")}}, api.OK},
		{nil, api.ErrNone}, {[]merge.Row{row("a=1", 5)}, api.ErrNone}, {[]merge.Row{row("a=1", 6, 7)}, api.ErrNone}, {[]merge.Row{row("a=1", 5, 7), row("b=1", 5)}, api.ErrNone},
		{[]merge.Row{rowOf(valued("a=1", 5, 5), valued("a=1", 6, 7))}, api.ErrNone},
		{[]merge.Row{row("a=1", 5, 6, 20)}, api.ErrThere}, {[]merge.Row{row("a=1", 5, 6), row("b=1", 5)}, api.ErrThere}, {[]merge.Row{row("a=1", 5, 6, 8)}, api.ErrThere},
		{[]merge.Row{row("a=1", 5, 6), rowOf(valued("c=1", 6, 7))}, api.ErrThere}, {[]merge.Row{row("a=1", 4, 5, 6)}, api.ErrThere}, {[]merge.Row{row("a=1", 5, 6), row("d=1", 6)}, api.ErrThere},
		{[]merge.Row{row("a=1", 6, 5)}, api.ErrForm}, {[]merge.Row{row("c=1", 6), row("a=1", 5, 6)}, api.ErrForm}, {[]merge.Row{row("c=1", 8), row("a=1", 1)}, api.ErrForm},
	} {
		if err := l.Answers(ask, low, x.got); err != x.want {
			t.Errorf("%d: %d, not %d", i, err, x.want)
		}
	}
	if l.Open() != 3 || !equal(l.Sure(), []merge.Row{row("a=1", 5, 6, 20), row("b=1", 5)}) {
		t.Errorf("%d open, %v", l.Open(), l.Sure())
	}
	// Of what low has only what is asked for.
	ends(t, "no times", l.Answers(query.Ask{From: 9, To: 9}, low, nil), api.OK)
	ends(t, "other times", l.Answers(query.Ask{From: 7, To: 20}, low, nil), api.OK)
	ends(t, "the last time", l.Answers(query.Ask{From: 7, To: 21}, low, nil), api.ErrNone)
	other, _ := matcher.Parse("a=2")
	ends(t, "other series", l.Answers(query.Ask{To: 99, Match: other}, low, nil), api.OK)
}

// spoil: all that a table's lists hold is another thing.
func spoil(l []merge.Row) {
	for _, r := range l {
		r.Labels[0] = label.Pair{Name: "z", Value: "z"}
		clear(r.Samples)
	}
	clear(l)
}

// K3: what is handed in stays, and isn't kept; what is answered is the caller's own.
func TestOwn(t *testing.T) {
	done, tried := points("a=1,b=1", 5, 6), points("c=1", 7)
	l := known(done, tried)
	sure, may := []merge.Row{row("a=1,b=1", 5, 6)}, []merge.Row{row("a=1,b=1", 5, 6), row("c=1", 7)}
	if !equal([]merge.Row{rowOf(done...), rowOf(tried...)}, may) {
		t.Errorf("%v, %v", done, tried)
	}
	done[0].Labels[0].Value, tried[0].Labels[0].Value = "9", "9"
	clear(done)
	clear(tried)
	is(t, "other points", l, 1, sure, may)
	spoil(l.Sure())
	spoil(l.May())
	is(t, "other answers", l, 1, sure, may)
	kept := l.Sure()
	l.Done(points("a=1,b=1", 1, 9)...)
	l.Done(points("_=1", 1)...)
	if !equal(kept, sure) {
		t.Errorf("an answer has changed: %v", kept)
	}
	now := l.May()
	for range 2 {
		want := l.May()
		ends(t, "Settle", l.Settle(now), api.OK)
		if !equal(now, want) {
			t.Errorf("%v", now)
		}
		spoil(now)
		is(t, "another table", l, 0, want, want)
		now = l.Sure()
	}
	low, got := l.Sure(), l.Sure()
	ends(t, "Answers", l.Answers(query.Ask{To: 99}, low, got), api.OK)
	if !equal(low, l.Sure()) || !equal(got, l.Sure()) {
		t.Errorf("%v, %v", low, got)
	}
}

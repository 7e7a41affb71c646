package engine

import (
	"math"
	"testing"

	"barograph/api"
	"barograph/matcher"
	"barograph/merge"
	"barograph/query"
)

// all: an ask for all.
func all() query.Ask {
	return query.Ask{To: math.MaxInt64}
}

// isTold: is a query's answer this one, and is it gone then?
func isTold(t *testing.T, what string, e *Engine, n int, want ...merge.Row) {
	t.Helper()
	if l, err := e.Result(n); err != api.OK || !equal(l, want) {
		t.Errorf("%s: %v, %d, not %v", what, l, err, want)
	}
	isGone(t, what, e, n)
}

// isGone: is there no query of that number?
func isGone(t *testing.T, what string, e *Engine, n int) {
	t.Helper()
	ends(t, what, e.Read(n), api.ErrNone)
	if l, err := e.Result(n); l != nil || err != api.ErrNone {
		t.Errorf("%s: %v, %d", what, l, err)
	}
}

// P24.3: a query, step by step: ErrBusy until it has ended; then its answer, once.
func TestAsk(t *testing.T) {
	w := shipped(t, plain())
	e := w.e
	until(t, "Update", api.ErrIdle, e.Update)
	isGone(t, "none", e, 1)
	calls(t, "Ask", e, 0, 0, func() { ends(t, "Ask", e.Ask(1, all()), api.OK) })
	// The index; of two blocks their index and two rows.
	for i := range 7 {
		for range 2 {
			if l, err := e.Result(1); l != nil || err != api.ErrBusy {
				t.Errorf("%d: %v, %d", i, l, err)
			}
		}
		calls(t, "Read", e, 0, 1, func() { ends(t, "Read", e.Read(1), api.OK) })
	}
	calls(t, "the end", e, 0, 0, func() { ends(t, "the end", e.Read(1), api.ErrIdle) })
	isTold(t, "all", e, 1, row("a=1", 1, 2, 11, 35), row("b=1", 3, 12))
}

// Queries by their numbers, any ones; a number that there is already is refused, but for an ask's own error.
func TestAskNumbers(t *testing.T) {
	e := fresh(t, plain())
	takes(t, e, some()...)
	bad := query.Ask{Match: []matcher.Matcher{{Kind: matcher.Is, Name: "a", Values: []string{"1"}}, {Kind: 9}}}
	numbers := []int{0, 1, -1, math.MaxInt, math.MinInt, 1 << 40}
	for i, n := range numbers {
		ends(t, "an error", e.Ask(n, bad), api.ErrArg)
		isGone(t, "an error", e, n)
		ends(t, "Ask", e.Ask(n, query.Ask{From: int64(i), To: 100}), api.OK)
		ends(t, "busy", e.Ask(n, all()), api.ErrBusy)
		ends(t, "an error", e.Ask(n, bad), api.ErrArg)
	}
	for _, n := range numbers {
		ends(t, "Read", e.Read(n), api.OK)
		ends(t, "busy, at its end", e.Ask(n, all()), api.ErrBusy)
	}
	for i, n := range numbers {
		want := query.Ask{From: int64(i), To: 100}.Of(whole(e))
		isTold(t, "its own answer", e, n, want...)
		ends(t, "Ask", e.Ask(n, all()), api.OK)
	}
}

// P24.3: where a sample is plays no part: in the head, in a local block, in one that was sent, in one that the index has, in one that was made of others.
func TestAskAnywhere(t *testing.T) {
	w := newWorld(t, 1, plain())
	e := w.e
	want := []merge.Row{row("a=1", 1, 2, 11, 35), row("b=1", 3, 12)}
	same := func(what string) {
		t.Helper()
		if got := answered(t, e); !equal(got, want) {
			t.Errorf("%s: %v", what, got)
		}
	}
	w.taken(some()...)
	same("in the head")
	e.Cut()
	same("a local block")
	e.Cut()
	same("two")
	for err := api.OK; err == api.OK; err = e.Ship() {
		same("being shipped")
	}
	same("sent")
	until(t, "Update", api.ErrIdle, e.Update)
	same("in the index, and noted")
	e.Tick(1)
	for err := api.OK; err == api.OK; err = e.Update() {
		same("in the index")
	}
	same("in the index, and not noted")
	for err := api.OK; err == api.OK; err = e.Compact() {
		same("being made one")
	}
	same("not yet in the index")
	for err := api.OK; err == api.OK; err = e.Update() {
		same("being listed")
	}
	same("made one")
	for range 3 {
		e.Tick(3)
		for err := api.OK; err == api.OK; err = e.Sweep() {
			same("being deleted")
		}
		until(t, "Update", api.ErrIdle, e.Update)
	}
	same("deleted")
	if l := objects(e); len(l) != 4 {
		t.Errorf("%v", l)
	}
}

// P24.3: what was there when it was asked for is answered, wherever it is by then; what came later may be left out.
func TestAskThen(t *testing.T) {
	w := newWorld(t, 1, plain())
	e := w.e
	w.taken(some()...)
	low := w.book.Sure()
	for i, step := range []func() api.Errno{
		func() api.Errno { return w.taken(points("a=1", 36, 90)...) },
		e.Cut, e.Cut, e.Ship, e.Ship, e.Ship, e.Ship, e.Ship, e.Compact, e.Update, e.Update, e.Update, e.Ship,
	} {
		n := i
		ends(t, "Ask", e.Ask(n, all()), api.OK)
		ends(t, "a step", step(), api.OK)
		for range i % 3 {
			ends(t, "Read", e.Read(n), api.OK)
			if e.Read(n) == api.ErrIdle {
				break
			}
		}
	}
	for n := range 13 {
		until(t, "Read", api.ErrIdle, func() api.Errno { return e.Read(n) })
		got, err := e.Result(n)
		if err != api.OK || w.book.Answers(all(), low, got) != api.OK {
			t.Errorf("%d: %v, %d", n, got, err)
		}
		if n == 0 && !equal(got, low) {
			t.Errorf("what came later: %v", got)
		}
		low = w.book.Sure()
	}
}

// What is asked for: times, series.
func TestAskSome(t *testing.T) {
	w := shipped(t, plain())
	until(t, "Update", api.ErrIdle, w.e.Update)
	w.taken(points("b=1", 36)...)
	w.e.Tick(1)
	for i, x := range []struct {
		from, to int64
		match    string
		want     []merge.Row
	}{
		{0, 100, "a=1", []merge.Row{row("a=1", 1, 2, 11, 35)}},
		{2, 12, "", []merge.Row{row("a=1", 2, 11), row("b=1", 3)}},
		{2, 13, "a!=1", []merge.Row{row("b=1", 3, 12)}},
		{12, 36, "", []merge.Row{row("a=1", 35), row("b=1", 12)}},
		{35, 37, "b^1", []merge.Row{row("b=1", 36)}},
		{-5, 1, "", nil}, {37, 99, "", nil}, {0, 100, "c=1", nil}, {20, 10, "", nil},
	} {
		m, _ := matcher.Parse(x.match)
		ends(t, "Ask", w.e.Ask(i, query.Ask{From: x.from, To: x.to, Match: m}), api.OK)
		until(t, "Read", api.ErrIdle, func() api.Errno { return w.e.Read(i) })
		isTold(t, "some", w.e, i, x.want...)
	}
}

// A query whose index is more than the delay old ends with ErrStale; then it is gone, too.
func TestAskStale(t *testing.T) {
	for ticks := range 12 {
		w := shipped(t, plain())
		e := w.e
		until(t, "Update", api.ErrIdle, e.Update)
		ends(t, "Ask", e.Ask(1, all()), api.OK)
		ends(t, "Ask", e.Ask(2, all()), api.OK)
		ends(t, "Read", e.Read(1), api.OK)
		e.Tick(ticks)
		if ticks <= plain().Delay {
			for n := 1; n <= 2; n++ {
				until(t, "Read", api.ErrIdle, func() api.Errno { return e.Read(n) })
				isTold(t, "in time", e, n, w.book.Sure()...)
			}
			continue
		}
		for n := 1; n <= 2; n++ {
			ends(t, "too late", e.Read(n), api.ErrStale)
			ends(t, "too late", e.Read(n), api.ErrIdle)
			ends(t, "busy", e.Ask(n, all()), api.ErrBusy)
			if l, err := e.Result(n); l != nil || err != api.ErrStale {
				t.Errorf("too late: %v, %d", l, err)
			}
			isGone(t, "too late", e, n)
		}
		ends(t, "Ask", e.Ask(1, all()), api.OK)
	}
}

// A Read that fails is done again.
func TestAskFaults(t *testing.T) {
	for i := range 7 {
		for _, done := range []bool{false, true} {
			w := shipped(t, plain())
			until(t, "Update", api.ErrIdle, w.e.Update)
			ends(t, "Ask", w.e.Ask(1, all()), api.OK)
			w.e.Bucket().Arm(i, done)
			for range i {
				ends(t, "Read", w.e.Read(1), api.OK)
			}
			ends(t, "a fault", w.e.Read(1), api.ErrIO)
			if _, err := w.e.Result(1); err != api.ErrBusy {
				t.Errorf("a fault: %d", err)
			}
			for range 7 - i {
				ends(t, "Read", w.e.Read(1), api.OK)
			}
			ends(t, "the end", w.e.Read(1), api.ErrIdle)
			isTold(t, "all", w.e, 1, w.book.Sure()...)
		}
	}
}

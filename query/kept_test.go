package query

import (
	"slices"
	"testing"

	"barograph/api"
	"barograph/label"
	"barograph/matcher"
	"barograph/merge"
	"barograph/ship"
)

// spoil: all that a table's lists hold is another thing.
func spoil(l []merge.Row) {
	for _, r := range l {
		r.Labels[0] = label.Pair{Name: "z", Value: "z"}
		clear(r.Samples)
		_ = append(r.Samples[:0], api.Sample{T: -9})
		_ = append(r.Labels, label.Pair{Name: "y"})
	}
	clear(l)
}

// K3: what is handed in stays, and is nothing to the query any more.
func TestHandedIn(t *testing.T) {
	b := two(t)
	know(b, 7, first(t))
	table := []merge.Row{row("a=2", 3), row("c=1", 8)}
	match := []matcher.Matcher{{Kind: matcher.Among, Name: "a", Values: []string{"1", "2"}}}
	sent := []ship.Sent{{Meta: second(t).Meta, At: 8}}
	tables := [][]merge.Row{table, {row("a=1", 900)}}
	// What lies behind a list isn't written to.
	tables = tables[:1:2]
	ask := Ask{To: 1000, Match: match}
	q := New(ask, 5, sent, tables...)
	if !equal(table, []merge.Row{row("a=2", 3), row("c=1", 8)}) || !equal(tables[:2][1], []merge.Row{row("a=1", 900)}) {
		t.Errorf("%v", tables[:2])
	}
	if matcher.Format(match) != "a@1|2" || len(sent) != 1 || sent[0].At != 8 || sent[0].Meta.ID != id(2) || !slices.Equal(sent[0].Meta.Files, second(t).Meta.Files) {
		t.Errorf("%v, %v", match, sent)
	}
	match[0].Values[0] = "7"
	clear(match)
	clear(sent[0].Meta.Files)
	clear(sent)
	spoil(table)
	clear(tables)
	ended(t, q, b, 8)
	has(t, "behind other things", q, 7, row("a=1", 3, 4, 15), row("a=2", 3))
}

// K3: what is answered is the caller's own.
func TestAnswered(t *testing.T) {
	b := two(t)
	q := New(all(), 5, nil, []merge.Row{row("a=1", 1, 3), row("c=1", 2)})
	ended(t, q, b, 8)
	want := []merge.Row{row("a=1", 1, 3, 4, 15), row("b=1", 5), row("c=1", 2)}
	for range 3 {
		l, err := q.Result()
		if err != api.OK || !equal(l, want) {
			t.Errorf("%v, %d", l, err)
		}
		spoil(l)
	}
}

// K3: queries of one ask have nothing to do with each other, and the bucket stays as it is.
func TestTwo(t *testing.T) {
	b := two(t)
	before := b.Look("")
	sent := []ship.Sent{{Meta: second(t).Meta, At: 8}}
	ask := asks(0, 100, "a=1")
	q, r := New(ask, 5, sent), New(ask, 5, sent, ofSecond())
	steps(t, "one", q, b, 8, api.OK, api.OK)
	steps(t, "the other one", r, b, 8, api.OK)
	steps(t, "one", q, b, 8, api.OK)
	steps(t, "the other one, too late", r, b, 99, api.ErrStale)
	steps(t, "one", q, b, 8, api.OK, api.OK)
	failed(t, "the other one", r, 7, api.ErrStale)
	has(t, "one", q, 7, row("a=1", 3, 4, 15))
	if after := b.Look(""); !slices.Equal(after, before) {
		t.Errorf("%v, not %v", after, before)
	}
}

// K1: a list that is nil and an empty one are the same.
func TestEmptyLists(t *testing.T) {
	b := two(t)
	for _, q := range []*Query{New(all(), 5, nil), New(Ask{To: 1000, Match: []matcher.Matcher{}}, 5, []ship.Sent{}, [][]merge.Row{}...), New(all(), 5, nil, nil, []merge.Row{})} {
		ended(t, q, b, 8)
		has(t, "empty lists", q, 7, ofBoth()...)
	}
}

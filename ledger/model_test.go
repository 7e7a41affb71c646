package ledger

import (
	"slices"
	"testing"

	"barograph/api"
	"barograph/head"
	"barograph/label"
	"barograph/matcher"
	"barograph/merge"
	"barograph/query"
)

// rolls: numbers that follow from where they begin, and from nothing else.
type rolls uint64

func (r *rolls) below(n int) int {
	*r = *r*6364136223846793005 + 1442695040888963407
	return int(uint64(*r)>>33) % n
}

// point: of few series, times and values.
func (r *rolls) point() head.Point {
	return valued([]string{"a=1", "a=1,b=1", "b=1"}[r.below(3)], int64(r.below(6)), uint64(r.below(3)))
}

func (r *rolls) points(most int) []head.Point {
	var l []head.Point
	for range r.below(most + 1) {
		l = append(l, r.point())
	}
	return l
}

// model: a ledger in plain words: lists of points, each looked through from its beginning.
type model struct {
	sure, open []head.Point
}

// same: are two points the same: their labels, their times, and, if asked for, their values?
func same(p, q head.Point, values bool) bool {
	return label.Compare(p.Labels, q.Labels) == 0 && p.S.T == q.S.T && (!values || p.S.V == q.S.V)
}

// hasPoint: has a list such a point?
func hasPoint(l []head.Point, p head.Point, values bool) bool {
	return slices.ContainsFunc(l, func(q head.Point) bool { return same(p, q, values) })
}

// joined: a list, and those of another one whose times aren't there.
func joined(l, more []head.Point) []head.Point {
	l = slices.Clone(l)
	for _, p := range more {
		if !hasPoint(l, p, false) {
			l = append(l, p)
		}
	}
	return l
}

// tableOf: points as a table.
func tableOf(l []head.Point) []merge.Row {
	var tables [][]merge.Row
	for _, p := range l {
		tables = append(tables, []merge.Row{rowOf(p)})
	}
	return merge.Tables(tables...)
}

// pointsOf: a table's points.
func pointsOf(l []merge.Row) []head.Point {
	var points []head.Point
	for _, r := range l {
		for _, s := range r.Samples {
			points = append(points, head.Point{Labels: r.Labels, S: s})
		}
	}
	return points
}

// all: has great each of small?
func all(small, great []head.Point) bool {
	return !slices.ContainsFunc(small, func(p head.Point) bool { return !hasPoint(great, p, true) })
}

// may: what may be there.
func (m *model) may() []head.Point {
	return joined(m.sure, m.open)
}

// settle: what Settle answers, of a table.
func (m *model) settle(now []head.Point) api.Errno {
	if !all(m.sure, now) {
		return api.ErrNone
	}
	if !all(now, m.may()) {
		return api.ErrThere
	}
	for i, p := range m.open {
		for _, q := range m.open[:i] {
			if label.Compare(p.Labels, q.Labels) == 0 && hasPoint(now, p, true) && !hasPoint(now, q, true) {
				return api.ErrOrder
			}
		}
	}
	m.sure, m.open = now, nil
	return api.OK
}

// of: of points what is asked for.
func of(a query.Ask, l []head.Point) []head.Point {
	return slices.DeleteFunc(slices.Clone(l), func(p head.Point) bool {
		return p.S.T < a.From || p.S.T >= a.To || !matcher.Match(p.Labels, a.Match...)
	})
}

// answers: what Answers answers, of tables.
func (m *model) answers(a query.Ask, low, got []head.Point) api.Errno {
	if !all(of(a, low), got) {
		return api.ErrNone
	}
	if !all(got, of(a, m.may())) {
		return api.ErrThere
	}
	return api.OK
}

// cast: what may be there, but for some; now and then something else.
func (r *rolls) cast(l []head.Point, less int) []head.Point {
	var some []head.Point
	for _, p := range l {
		if r.below(less) > 0 {
			some = append(some, p)
		}
	}
	if r.below(8) == 0 {
		some = joined(r.points(1), some)
	}
	return some
}

// P25.1 to P25.3: behind any calls each is answered as the plain words say.
func TestModel(t *testing.T) {
	settled, answered := map[api.Errno]int{}, map[api.Errno]int{}
	for seed := range 3000 {
		r := rolls(seed)
		l, m := &Ledger{}, &model{}
		for range 30 {
			switch r.below(6) {
			case 0:
				p := r.points(3)
				l.Done(p...)
				m.sure = joined(m.sure, p)
			case 1, 2:
				p := r.points(3)
				l.Tried(p...)
				m.open = append(m.open, p...)
			case 3:
				now := joined(r.cast(m.sure, 20), r.cast(m.open, 3))
				if r.below(4) == 0 {
					now = joined(m.sure, m.open[:r.below(len(m.open)+1)])
				}
				err, want := l.Settle(tableOf(now)), m.settle(now)
				ends(t, "Settle", err, want)
				settled[want]++
			case 4:
				a := query.Ask{From: int64(r.below(4)), To: int64(2 + r.below(6))}
				a.Match, _ = matcher.Parse([]string{"", "a=1", "b!=1"}[r.below(3)])
				low := r.cast(m.sure, 3)
				got := of(a, joined(r.cast(m.sure, 10), r.cast(m.may(), 3)))
				err, want := l.Answers(a, tableOf(low), tableOf(got)), m.answers(a, low, got)
				ends(t, "Answers", err, want)
				answered[want]++
			default:
				a, b := r.points(4), r.points(4)
				small, great := joined(nil, a), joined(nil, append(b, a[:r.below(len(a)+1)]...))
				if got := Within(tableOf(small), tableOf(great)); got != all(small, great) {
					t.Errorf("Within: %v, of %v in %v", got, small, great)
				}
			}
			is(t, "behind it", l, len(m.open), tableOf(m.sure), tableOf(m.may()))
			if t.Failed() {
				t.Fatalf("seed %d", seed)
			}
		}
	}
	if min(settled[api.OK], settled[api.ErrNone], settled[api.ErrThere], settled[api.ErrOrder]) < 100 || min(answered[api.OK], answered[api.ErrNone], answered[api.ErrThere]) < 100 {
		t.Errorf("Settle: %v; Answers: %v", settled, answered)
	}
}

// P25.3: what Settle takes is what must be there, and of each series the first ones of what was open; each such table it takes.
func TestTakes(t *testing.T) {
	for seed := range 500 {
		r := rolls(seed)
		done := joined(nil, r.points(5))
		// Points whose times are none's so far, as a log's are.
		var tried []head.Point
		for at := range r.below(6) {
			p := r.point()
			p.S.T = int64(10 + at)
			tried = append(tried, p)
		}
		first := map[string]int{}
		for _, p := range tried {
			first[p.Labels.Key()] = r.below(4)
		}
		now := slices.Clone(done)
		count := map[string]int{}
		for _, p := range tried {
			key := p.Labels.Key()
			if count[key] < first[key] {
				now = append(now, p)
			}
			count[key]++
		}
		l := known(done, tried)
		ends(t, "the first ones", l.Settle(tableOf(now)), api.OK)
		is(t, "the first ones", l, 0, tableOf(now), tableOf(now))
		if got := pointsOf(l.Sure()); !all(got, now) || !all(now, got) || t.Failed() {
			t.Fatalf("seed %d: %v, not %v", seed, got, now)
		}
	}
}

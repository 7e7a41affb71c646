package head

import (
	"math"
	"slices"
	"strconv"
	"testing"

	"barograph/api"
	"barograph/label"
	"barograph/matcher"
	"barograph/merge"
)

// room: a Config of much room, with ranges of 10.
var room = Config{Series: 100, Samples: 1000, Width: 10}

// set: the labels of a text; none of an empty one.
func set(s string) label.Set {
	l, _ := label.Parse(s)
	return l
}

// at: a point of a time whose value is that time.
func at(s string, t int64) Point {
	return Point{Labels: set(s), S: api.Sample{T: t, V: uint64(t)}}
}

// points: one of each of these times.
func points(s string, times ...int64) []Point {
	var l []Point
	for _, t := range times {
		l = append(l, at(s, t))
	}
	return l
}

// row: labels, and samples whose values are their times.
func row(s string, times ...int64) merge.Row {
	r := merge.Row{Labels: set(s)}
	for _, p := range points(s, times...) {
		r.Samples = append(r.Samples, p.S)
	}
	return r
}

// empty: a head without samples.
func empty(t *testing.T, cfg Config) *Head {
	t.Helper()
	h, err := New(cfg)
	if err != api.OK || h == nil {
		t.Fatalf("New(%v): %v, %d", cfg, h, err)
	}
	return h
}

// filled: a head to which points were added, all of which Check lets.
func filled(t *testing.T, cfg Config, l ...Point) *Head {
	t.Helper()
	h := empty(t, cfg)
	checks(t, h, -1, api.OK, l...)
	h.Add(l...)
	return h
}

// checks: does Check answer this?
func checks(t *testing.T, h *Head, place int, want api.Errno, l ...Point) {
	t.Helper()
	if i, err := h.Check(l...); i != place || err != want {
		t.Errorf("Check: %d, %d, not %d, %d", i, err, place, want)
	}
}

// equal: have two tables the same rows?
func equal(a, b []merge.Row) bool {
	return slices.EqualFunc(a, b, func(x, y merge.Row) bool {
		return slices.Equal(x.Labels, y.Labels) && slices.Equal(x.Samples, y.Samples)
	})
}

// whole: all that a head has.
func whole(h *Head) []merge.Row {
	return h.Select(math.MinInt64, math.MaxInt64)
}

// has: has a head these rows, and no others?
func has(t *testing.T, what string, h *Head, want ...merge.Row) {
	t.Helper()
	if got := whole(h); !equal(got, want) {
		t.Errorf("%s: %v, not %v", what, got, want)
	}
	if h.Series() != len(want) || h.Samples() != merge.Count(want) {
		t.Errorf("%s: %d series, %d samples", what, h.Series(), h.Samples())
	}
}

// stands: are a head's floor and top these?
func stands(t *testing.T, what string, h *Head, floor, top int64) {
	t.Helper()
	if h.Floor() != floor || h.Top() != top {
		t.Errorf("%s: floor %d, top %d, not %d, %d", what, h.Floor(), h.Top(), floor, top)
	}
}

// oldest: does Oldest answer this?
func oldest(t *testing.T, what string, h *Head, from, to int64, may bool) {
	t.Helper()
	if f, o, ok := h.Oldest(); f != from || o != to || ok != may {
		t.Errorf("%s: %d, %d, %v, not %d, %d, %v", what, f, o, ok, from, to, may)
	}
}

// P15.1: the chapter's example.
func TestExample(t *testing.T) {
	oldest(t, "3 and 25", filled(t, room, at("a=1", 3), at("a=1", 25)), 0, 10, true)
	oldest(t, "3 and 19", filled(t, room, at("a=1", 3), at("a=1", 19)), 0, 10, false)
}

// P15.1: the kinds that the chapter gives.
func TestKinds(t *testing.T) {
	if KindSeries != 1 || KindSamples != 2 || KindFloor != 3 {
		t.Errorf("%d, %d, %d", KindSeries, KindSamples, KindFloor)
	}
}

// P15.1: which numbers may be; New answers the same error, without a head.
func TestConfig(t *testing.T) {
	for _, x := range []struct {
		cfg  Config
		want api.Errno
	}{
		{Config{1, 1, 1}, api.OK}, {Config{10000, 1 << 20, 1 << 30}, api.OK}, {room, api.OK},
		{Config{}, api.ErrArg},
		{Config{0, 1, 1}, api.ErrArg}, {Config{1, 0, 1}, api.ErrArg}, {Config{1, 1, 0}, api.ErrArg},
		{Config{-1, 1, 1}, api.ErrArg}, {Config{1, -1, 1}, api.ErrArg}, {Config{1, 1, -1}, api.ErrArg},
		{Config{10001, 1, 1}, api.ErrArg}, {Config{1, 1<<20 + 1, 1}, api.ErrArg}, {Config{1, 1, 1<<30 + 1}, api.ErrArg},
		{Config{math.MaxInt, math.MaxInt, math.MaxInt64}, api.ErrArg}, {Config{math.MinInt, math.MinInt, math.MinInt64}, api.ErrArg},
	} {
		if err := x.cfg.Check(); err != x.want {
			t.Errorf("%v: %d", x.cfg, err)
		}
		if h, err := New(x.cfg); err != x.want || (h == nil) != (err != api.OK) {
			t.Errorf("New(%v): %v, %d", x.cfg, h, err)
		}
	}
}

// P15.1: an empty head.
func TestNew(t *testing.T) {
	h := empty(t, room)
	has(t, "a new one", h)
	stands(t, "a new one", h, 0, -1)
	oldest(t, "a new one", h, 0, 0, false)
	checks(t, h, -1, api.OK)
	h.Add()
	h.Drop(0)
	has(t, "the same", h)
	stands(t, "the same", h, 0, -1)
}

// P15.1, P15.3: what was added is there.
func TestAdd(t *testing.T) {
	h := empty(t, room)
	h.Add(at("b=1", 7), at("a=1", 3), at("b=1", 8), at("a=1,b=1", 0))
	has(t, "four", h, row("a=1", 3), row("a=1,b=1", 0), row("b=1", 7, 8))
	stands(t, "four", h, 0, 8)
	h.Add(at("a=1", 1<<40-1))
	h.Add(at("b=1", 9))
	has(t, "six", h, row("a=1", 3, 1<<40-1), row("a=1,b=1", 0), row("b=1", 7, 8, 9))
	stands(t, "six", h, 0, 1<<40-1)
}

// P15.3: whatever is added, each time of a series is there once, and as it was first; times rise.
func TestAddOfAny(t *testing.T) {
	h := filled(t, Config{Series: 2, Samples: 5, Width: 10}, at("a=1", 20), at("b=1", 25))
	h.Drop(10)
	other := at("a=1", 20)
	other.S.V = 99
	h.Add(other, at("a=1", 19), at("a=1", 5), at("a=1", -1), at("a=1", 1<<40), at("", 30), at("c=1", 30), Point{Labels: label.Set{{Name: "b", Value: "1"}, {Name: "a", Value: "1"}}, S: api.Sample{T: 30}})
	has(t, "none of these", h, row("a=1", 20), row("b=1", 25))
	stands(t, "none of these", h, 10, 25)
	h.Add(at("a=1", 21), at("a=1", 21), at("b=1", 26), at("b=1", 27), at("b=1", 28), at("a=1", 29))
	has(t, "as many as there is room for", h, row("a=1", 20, 21), row("b=1", 25, 26, 27))
}

// P15.1: the floor is at least what was dropped to; what is below it is gone, and series without any.
func TestDrop(t *testing.T) {
	h := filled(t, room, append(points("a=1", 3, 9, 10, 15), points("b=1", 1, 9)...)...)
	h.Drop(math.MinInt64)
	h.Drop(-1)
	h.Drop(0)
	stands(t, "below 0", h, 0, 15)
	h.Drop(1)
	has(t, "at the first one", h, row("a=1", 3, 9, 10, 15), row("b=1", 1, 9))
	h.Drop(2)
	has(t, "behind the first one", h, row("a=1", 3, 9, 10, 15), row("b=1", 9))
	h.Drop(9)
	has(t, "at the last one", h, row("a=1", 9, 10, 15), row("b=1", 9))
	h.Drop(10)
	has(t, "behind the last one", h, row("a=1", 10, 15))
	stands(t, "behind the last one", h, 10, 15)
	h.Drop(4)
	h.Drop(10)
	has(t, "what is past", h, row("a=1", 10, 15))
	stands(t, "what is past", h, 10, 15)
	h.Drop(16)
	has(t, "all", h)
	stands(t, "all", h, 16, 15)
	oldest(t, "all", h, 0, 0, false)
	h.Add(at("a=1", 16))
	has(t, "one more", h, row("a=1", 16))
	h.Drop(math.MaxInt64)
	has(t, "all there may be", h)
	stands(t, "all there may be", h, math.MaxInt64, 16)
}

// P15.1: a series that is gone may come again, and finds room.
func TestDropMakesRoom(t *testing.T) {
	h := filled(t, Config{Series: 1, Samples: 2, Width: 10}, points("a=1", 3, 5)...)
	checks(t, h, 0, api.ErrLimit, at("a=1", 6))
	checks(t, h, 0, api.ErrLimit, at("b=1", 6))
	h.Drop(4)
	checks(t, h, 0, api.ErrLimit, at("b=1", 6))
	checks(t, h, 1, api.ErrLimit, points("a=1", 6, 7)...)
	h.Drop(6)
	checks(t, h, 2, api.ErrLimit, points("b=1", 6, 7, 8)...)
	h.Add(points("b=1", 6, 7)...)
	has(t, "another one", h, row("b=1", 6, 7))
	h.Drop(8)
	h.Add(points("a=1", 8, 9)...)
	has(t, "the first one again", h, row("a=1", 8, 9))
}

// P15.1: the samples of the series that all matchers fit, from one time on, ahead of another one.
func TestSelect(t *testing.T) {
	h := filled(t, room, slices.Concat(points("job=b,zone=x", 1, 5, 9), points("job=a,zone=x", 5), points("job=a", 2, 30))...)
	for i, x := range []struct {
		from, to int64
		match    string
		want     []merge.Row
	}{
		{0, 99, "", []merge.Row{row("job=a", 2, 30), row("job=a,zone=x", 5), row("job=b,zone=x", 1, 5, 9)}},
		{1, 9, "", []merge.Row{row("job=a", 2), row("job=a,zone=x", 5), row("job=b,zone=x", 1, 5)}},
		{2, 3, "", []merge.Row{row("job=a", 2)}},
		{5, 6, "", []merge.Row{row("job=a,zone=x", 5), row("job=b,zone=x", 5)}},
		{5, 5, "", nil}, {6, 5, "", nil}, {31, math.MaxInt64, "", nil}, {math.MinInt64, 1, "", nil}, {math.MaxInt64, math.MinInt64, "", nil},
		{0, 99, "job=a", []merge.Row{row("job=a", 2, 30), row("job=a,zone=x", 5)}},
		{3, 99, "job=a", []merge.Row{row("job=a", 30), row("job=a,zone=x", 5)}},
		{0, 99, "job=a,zone=x", []merge.Row{row("job=a,zone=x", 5)}},
		{0, 99, "zone=", []merge.Row{row("job=a", 2, 30)}},
		{0, 99, "zone!=", []merge.Row{row("job=a,zone=x", 5), row("job=b,zone=x", 1, 5, 9)}},
		{0, 99, "job!=a", []merge.Row{row("job=b,zone=x", 1, 5, 9)}},
		{0, 99, "job@c|b", []merge.Row{row("job=b,zone=x", 1, 5, 9)}},
		{0, 99, "zone^x,job^a", []merge.Row{row("job=a,zone=x", 5)}},
		{0, 99, "job=a,job=b", nil}, {0, 99, "q=1", nil},
		{0, 99, "q=", []merge.Row{row("job=a", 2, 30), row("job=a,zone=x", 5), row("job=b,zone=x", 1, 5, 9)}},
	} {
		m, err := matcher.Parse(x.match)
		if got := h.Select(x.from, x.to, m...); err != api.OK || !equal(got, x.want) {
			t.Errorf("%d: %v, not %v", i, got, x.want)
		}
	}
}

// K1, K7: a matcher that may not be fits as its Fits says.
func TestSelectAnyMatcher(t *testing.T) {
	h := filled(t, room, at("a=1", 1), at("b=1", 2))
	for _, m := range []matcher.Matcher{{}, {Kind: 9, Name: "a", Values: []string{"1"}}, {Kind: matcher.Is, Name: "a"}, {Kind: matcher.IsNot, Name: "a"}, {Kind: matcher.Begins, Name: "a", Values: []string{""}}, {Kind: matcher.Is, Values: []string{""}}} {
		var want []merge.Row
		for _, r := range whole(h) {
			if matcher.Match(r.Labels, m) {
				want = append(want, r)
			}
		}
		if got := h.Select(0, 9, m); !equal(got, want) {
			t.Errorf("%v: %v, not %v", m, got, want)
		}
	}
}

// P15.1: of the least time its range, and whether the top is far enough.
func TestOldest(t *testing.T) {
	for _, x := range []struct {
		width    int64
		times    []int64
		from, to int64
		may      bool
	}{
		{10, []int64{0}, 0, 10, false}, {10, []int64{0, 19}, 0, 10, false}, {10, []int64{0, 20}, 0, 10, true}, {10, []int64{9, 20}, 0, 10, true},
		{10, []int64{10, 20}, 10, 20, false}, {10, []int64{10, 29}, 10, 20, false}, {10, []int64{10, 30}, 10, 20, true}, {10, []int64{19, 30, 500}, 10, 20, true},
		{1, []int64{5}, 5, 6, false}, {1, []int64{5, 6}, 5, 6, false}, {1, []int64{5, 7}, 5, 6, true},
		{7, []int64{13, 27}, 7, 14, true}, {7, []int64{14, 27}, 14, 21, false},
		{1 << 30, []int64{1 << 30, 3<<30 - 1}, 1 << 30, 2 << 30, false}, {1 << 30, []int64{1<<31 - 1, 3 << 30}, 1 << 30, 2 << 30, true},
		{1 << 30, []int64{1<<40 - 1}, 1<<40 - 1<<30, 1 << 40, false},
	} {
		cfg := room
		cfg.Width = x.width
		h := filled(t, cfg, points("a=1", x.times...)...)
		oldest(t, "one series", h, x.from, x.to, x.may)
		h = empty(t, cfg)
		for i, at := range x.times {
			h.Add(points("n="+strconv.Itoa(i), at)...)
		}
		oldest(t, "a series each", h, x.from, x.to, x.may)
	}
}

// P15.1: the least time is that of any series, whichever came first; what is dropped isn't asked any more, the top is.
func TestOldestBehindDrops(t *testing.T) {
	h := filled(t, room, at("b=1", 25), at("a=1", 14), at("c=1", 44), at("a=1", 31))
	oldest(t, "all", h, 10, 20, true)
	h.Drop(20)
	oldest(t, "from 20 on", h, 20, 30, true)
	h.Drop(30)
	oldest(t, "from 30 on", h, 30, 40, false)
	h.Drop(45)
	oldest(t, "none", h, 0, 0, false)
	h.Add(at("a=1", 45))
	oldest(t, "one again", h, 40, 50, false)
}

// K3: neither what is handed in nor what is answered is the head's own.
func TestSharesNothing(t *testing.T) {
	h := empty(t, room)
	l := []Point{at("a=1", 3), at("b=1", 4), at("a=1", 5)}
	kept := []Point{at("a=1", 3), at("b=1", 4), at("a=1", 5)}
	same := func(what string) {
		t.Helper()
		for i, p := range l {
			if !slices.Equal(p.Labels, kept[i].Labels) || p.S != kept[i].S {
				t.Errorf("%s: point %d: %v", what, i, p)
			}
		}
	}
	h.Check(l...)
	h.Records(l...)
	h.Add(l...)
	h.Drop(4)
	same("behind all calls")
	for i := range l {
		l[i].Labels[0] = label.Pair{Name: "z", Value: "z"}
		l[i] = Point{}
	}
	has(t, "points written over", h, row("a=1", 5), row("b=1", 4))
	rows := whole(h)
	for i := range rows {
		rows[i].Labels[0] = label.Pair{Name: "z", Value: "z"}
		rows[i].Samples[0] = api.Sample{T: 77}
		_ = append(rows[i].Samples, api.Sample{T: 78})
		rows[i] = merge.Row{}
	}
	has(t, "rows written over", h, row("a=1", 5), row("b=1", 4))
	rows = whole(h)
	h.Add(at("a=1", 6), at("b=1", 6))
	h.Drop(6)
	if !equal(rows, []merge.Row{row("a=1", 5), row("b=1", 4)}) {
		t.Errorf("rows behind later calls: %v", rows)
	}
}

// What is gone isn't kept: neither the series, nor its place, nor its labels.
func TestDropKeepsNothing(t *testing.T) {
	h := filled(t, room, at("a=1", 3), at("b=1", 14), at("c=1", 5))
	h.Drop(10)
	if len(h.series) != 1 || len(h.places) != 1 || len(h.index.All()) != 1 || len(h.index.Names()) != 1 {
		t.Errorf("%d series, %d places, index: %v, %q", len(h.series), len(h.places), h.index.All(), h.index.Names())
	}
}

// P1: many series, each dropped and added again, end soon.
func TestManySeries(t *testing.T) {
	const many = 10000
	h := empty(t, Config{Series: many, Samples: 1 << 20, Width: 10})
	for round := range int64(4) {
		var l []Point
		for n := range many {
			l = append(l, at("job=api,n="+strconv.Itoa(n), 10*round), at("job=api,n="+strconv.Itoa(n), 10*round+1))
		}
		checks(t, h, -1, api.OK, l...)
		h.Add(l...)
		checks(t, h, 0, api.ErrLimit, at("job=web", 10*round+2))
		if rows := h.Select(10*round+1, 10*round+2); len(rows) != many || merge.Count(rows) != many || !merge.Good(rows) {
			t.Errorf("round %d: %d rows", round, len(rows))
		}
		oldest(t, "many", h, 10*round, 10*round+10, false)
		h.Drop(10*round + 2)
		has(t, "none", h)
	}
}

// P15.1: there may be as many samples as the greatest Config lets, and no more.
func TestManySamples(t *testing.T) {
	const many = 1 << 20
	h := empty(t, Config{Series: 1, Samples: many, Width: 1 << 30})
	l := make([]Point, many)
	for i := range l {
		l[i] = Point{Labels: set("a=1"), S: api.Sample{T: int64(i)}}
	}
	checks(t, h, -1, api.OK, l...)
	h.Add(l...)
	checks(t, h, 0, api.ErrLimit, at("a=1", many))
	h.Drop(1)
	checks(t, h, -1, api.OK, at("a=1", many))
	checks(t, h, 1, api.ErrLimit, points("a=1", many, many+1)...)
	if n := h.Samples(); n != many-1 {
		t.Errorf("%d samples", n)
	}
}

package head

import (
	"maps"
	"math"
	"slices"
	"testing"

	"barograph/api"
	"barograph/frame"
	"barograph/matcher"
	"barograph/merge"
)

// rolls: numbers that follow from where they begin, and from nothing else.
type rolls uint64

func (r *rolls) below(n int) int {
	*r = *r*6364136223846793005 + 1442695040888963407
	return int(uint64(*r)>>33) % n
}

// castPoint: a point that may be added, or not, of a time near to this one.
func (r *rolls) castPoint(near int64) Point {
	names := []string{"a=1", "a=2", "a=1,b=1", "a=1,b=2", "b=1", "c=1"}
	p := at(names[r.below(len(names))], near+int64(r.below(9)-3))
	p.S.V = uint64(r.below(100))
	switch r.below(60) {
	case 0:
		p.Labels = nil
	case 1:
		p.S.T = -1
	case 2:
		p.S.T = 1 << 40
	}
	return p
}

// castPoints: up to so many points.
func (r *rolls) castPoints(most int) []Point {
	var l []Point
	for i := range r.below(most + 1) {
		l = append(l, r.castPoint(int64(2*i)))
	}
	return l
}

// plain: a head as the chapter says it, in the plainest way: samples by their series' labels.
type plain struct {
	cfg   Config
	floor int64
	top   int64
	rows  map[string][]api.Sample
}

func (p *plain) samples() int {
	n := 0
	for _, l := range p.rows {
		n += len(l)
	}
	return n
}

// fault: what stands in the way of a point.
func (p *plain) fault(x Point) api.Errno {
	l, there := p.rows[x.Labels.String()]
	switch {
	case x.Labels.Check() != api.OK:
		return api.ErrLabel
	case x.S.T < 0 || x.S.T >= 1<<40:
		return api.ErrArg
	case there && l[len(l)-1].T == x.S.T:
		return api.ErrTwice
	case x.S.T < p.floor || there && x.S.T < l[len(l)-1].T:
		return api.ErrOrder
	case !there && len(p.rows) == p.cfg.Series || p.samples() == p.cfg.Samples:
		return api.ErrLimit
	}
	return api.OK
}

func (p *plain) add(l ...Point) {
	for _, x := range l {
		name := x.Labels.String()
		p.rows[name] = append(p.rows[name], x.S)
		p.top = max(p.top, x.S.T)
	}
}

// check: the first fault of points, each behind those ahead of it.
func (p *plain) check(l ...Point) (int, api.Errno) {
	try := plain{p.cfg, p.floor, p.top, map[string][]api.Sample{}}
	for name, samples := range p.rows {
		try.rows[name] = slices.Clone(samples)
	}
	for i, x := range l {
		if err := try.fault(x); err != api.OK {
			return i, err
		}
		try.add(x)
	}
	return -1, api.OK
}

func (p *plain) drop(to int64) {
	p.floor = max(p.floor, to)
	for name, l := range p.rows {
		p.rows[name] = slices.DeleteFunc(l, func(x api.Sample) bool { return x.T < p.floor })
		if len(p.rows[name]) == 0 {
			delete(p.rows, name)
		}
	}
}

// pick: the samples of the series that all matchers fit, between two times.
func (p *plain) pick(from, to int64, l ...matcher.Matcher) []merge.Row {
	var rows []merge.Row
	for _, name := range slices.Sorted(maps.Keys(p.rows)) {
		r := merge.Row{Labels: set(name)}
		for _, x := range p.rows[name] {
			if x.T >= from && x.T < to && matcher.Match(r.Labels, l...) {
				r.Samples = append(r.Samples, x)
			}
		}
		if len(r.Samples) > 0 {
			rows = append(rows, r)
		}
	}
	return rows
}

func (p *plain) oldest() (int64, int64, bool) {
	least := int64(math.MaxInt64)
	for _, l := range p.rows {
		least = min(least, l[0].T)
	}
	if least == math.MaxInt64 {
		return 0, 0, false
	}
	from := least / p.cfg.Width * p.cfg.Width
	return from, from + p.cfg.Width, p.top >= from+2*p.cfg.Width
}

// agrees: does a head say what the plain one says?
func agrees(t *testing.T, what string, r *rolls, h *Head, p *plain) {
	t.Helper()
	has(t, what, h, p.pick(math.MinInt64, math.MaxInt64)...)
	if h.Floor() != p.floor {
		t.Errorf("%s: floor %d, not %d", what, h.Floor(), p.floor)
	}
	from, to, may := p.oldest()
	oldest(t, what, h, from, to, may)
	for _, text := range []string{"a=1", "a!=1,b=", "b@1|2", "c^1"} {
		m, _ := matcher.Parse(text)
		from := p.floor + int64(r.below(20))
		to := from + int64(r.below(20)-2)
		if got, want := h.Select(from, to, m...), p.pick(from, to, m...); !equal(got, want) {
			t.Errorf("%s: %s from %d to %d: %v, not %v", what, text, from, to, got, want)
		}
	}
	for range 4 {
		l := []Point{r.castPoint(p.top), r.castPoint(p.top + 1), r.castPoint(p.floor), r.castPoint(p.top + 3)}
		place, err := p.check(l...)
		checks(t, h, place, err, l...)
	}
}

// world is a head, the plain one, and the log of what was done since that began.
type world struct {
	h   *Head
	p   *plain
	log []frame.Rec
}

// step: points come, samples are dropped, the log begins anew, or the head is made of it again.
func (w *world) step(t *testing.T, r *rolls) {
	t.Helper()
	switch r.below(9) {
	case 0, 1:
		to := w.p.floor + int64(r.below(12)-2)
		w.log = append(w.log, FloorRec(to))
		w.h.Drop(to)
		w.p.drop(to)
	case 2:
		w.log = w.h.Dump()
	case 3:
		w.h = replayed(t, "the log", w.p.cfg, w.log...)
	default:
		var l []Point
		for i := range r.below(5) {
			l = append(l, r.castPoint(max(w.p.top, w.p.floor)+int64(i)))
		}
		place, err := w.p.check(l...)
		checks(t, w.h, place, err, l...)
		if err == api.OK {
			w.log = append(w.log, w.h.Records(l...)...)
			w.h.Add(l...)
			w.p.add(l...)
		}
	}
}

// P15.1, P15.2, P15.3: behind any calls the head says what the plain one says, and so does Replay of its log, and of its Dump.
func TestAnyCalls(t *testing.T) {
	for seed := range 150 {
		r := rolls(seed)
		cfg := Config{Series: 1 + r.below(5), Samples: 1 + r.below(15), Width: int64(1 + r.below(9))}
		w := &world{h: empty(t, cfg), p: &plain{cfg: cfg, top: -1, rows: map[string][]api.Sample{}}}
		for range 60 {
			w.step(t, &r)
			agrees(t, "the head", &r, w.h, w.p)
			agrees(t, "its log", &r, replayed(t, "its log", cfg, w.log...), w.p)
			agrees(t, "its Dump", &r, replayed(t, "its Dump", cfg, w.h.Dump()...), w.p)
		}
		if t.Failed() {
			t.Fatalf("seed %d", seed)
		}
	}
}

// P15.2: Replay of all Records, with the floors between, has the same top, and tells the same numbers.
func TestReplayedWhole(t *testing.T) {
	for seed := range 100 {
		r, h, top := rolls(seed), empty(t, room), int64(-1)
		var log []frame.Rec
		for range 30 {
			l := []Point{r.castPoint(max(top, 0)), r.castPoint(max(top, 0) + 2)}
			if _, err := h.Check(l...); err == api.OK {
				log = append(log, h.Records(l...)...)
				h.Add(l...)
				top = max(top, l[0].S.T, l[1].S.T)
			}
			if r.below(5) == 0 {
				h.Drop(top - int64(r.below(9)))
				log = append(log, FloorRec(h.Floor()))
			}
			back := replayed(t, "the log", room, log...)
			stands(t, "the head", h, h.Floor(), top)
			stands(t, "the log", back, h.Floor(), top)
			same(t, "Dump", back.Dump(), h.Dump()...)
			same(t, "Records", back.Records(at("q=1", top+9), at("a=1", top+9)), h.Records(at("q=1", top+9), at("a=1", top+9))...)
		}
		if t.Failed() {
			t.Fatalf("seed %d", seed)
		}
	}
}

// P1, K7: any records end in a head or in an error; a head that they make can be dumped, and made again.
func TestReplayOfAny(t *testing.T) {
	for seed := range 3000 {
		r := rolls(seed)
		var l []frame.Rec
		for range r.below(12) {
			rec := seriesOf(uint64(r.below(3)), []string{"a=1", "b=1", "c=1"}[r.below(3)])
			switch r.below(8) {
			case 0, 1, 2, 3:
				rec = sampleOf(uint64(r.below(3)), uint64(r.below(20)), uint64(r.below(9)))
			case 4:
				rec = floorOf(uint64(r.below(12)))
			}
			if r.below(40) == 0 {
				b := []byte(rec.Data)
				b[r.below(len(b))] ^= byte(1 << r.below(8))
				rec.Data = string(b)
			}
			l = append(l, rec)
		}
		h, err := Replay(room, l)
		if (h == nil) != (err != api.OK) {
			t.Fatalf("seed %d: %v, %d", seed, h, err)
		}
		if h == nil {
			continue
		}
		more := []Point{at("a=1", 30), at("d=1", 30), at("b=1", 30), at("c=1", 30), at("a=1", 31)}
		records := h.Records(more...)
		fromLog := replayed(t, "the log", room, slices.Concat(l, records)...)
		fromDump := replayed(t, "the Dump", room, slices.Concat(h.Dump(), records)...)
		h.Add(more...)
		has(t, "the log", fromLog, whole(h)...)
		has(t, "the Dump", fromDump, whole(h)...)
		has(t, "another Dump", replayed(t, "another Dump", room, h.Dump()...), whole(h)...)
		if !merge.Good(whole(h)) {
			t.Errorf("no table: %v", whole(h))
		}
		if t.Failed() {
			t.Fatalf("seed %d", seed)
		}
	}
}

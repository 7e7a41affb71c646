package head

import (
	"math"
	"slices"
	"strings"
	"testing"

	"barograph/api"
	"barograph/label"
)

// P15.1: each error, at its edges.
func TestCheck(t *testing.T) {
	h := filled(t, room, at("a=1", 20), at("b=1", 30))
	h.Drop(15)
	for i, x := range []struct {
		p    Point
		want api.Errno
	}{
		{at("a=1", 21), api.OK}, {at("a=1", 1<<40-1), api.OK}, {at("c=1", 15), api.OK}, {at("c=1", 1<<40-1), api.OK},
		{at("a=1", 20), api.ErrTwice}, {at("b=1", 30), api.ErrTwice},
		{at("a=1", 19), api.ErrOrder}, {at("a=1", 15), api.ErrOrder}, {at("a=1", 14), api.ErrOrder}, {at("a=1", 0), api.ErrOrder},
		{at("c=1", 14), api.ErrOrder}, {at("c=1", 0), api.ErrOrder}, {at("b=1", 20), api.ErrOrder},
		{at("a=1", -1), api.ErrArg}, {at("a=1", 1<<40), api.ErrArg}, {at("c=1", -1), api.ErrArg}, {at("c=1", 1<<40), api.ErrArg},
		{at("a=1", math.MinInt64), api.ErrArg}, {at("a=1", math.MaxInt64), api.ErrArg},
		{at("", 40), api.ErrLabel},
	} {
		place := 0
		if x.want == api.OK {
			place = -1
		}
		if at, err := h.Check(x.p); at != place || err != x.want {
			t.Errorf("%d: %d, %d", i, at, err)
		}
	}
}

// P15.1: the labels' Check's error, whatever is wrong with them.
func TestCheckLabels(t *testing.T) {
	h := filled(t, room, at("a=1", 20))
	long := strings.Repeat("x", api.MaxName+1)
	var nine label.Set
	for _, name := range "abcdefghi" {
		nine = append(nine, label.Pair{Name: string(name), Value: "1"})
	}
	for i, l := range []label.Set{
		nil, {}, {{}}, {{Name: "a"}}, {{Value: "1"}}, {{Name: "0", Value: "1"}}, {{Name: "a-b", Value: "1"}},
		{{Name: long, Value: "1"}}, {{Name: "a", Value: long}}, nine,
		{{Name: "b", Value: "1"}, {Name: "a", Value: "1"}}, {{Name: "a", Value: "1"}, {Name: "a", Value: "1"}},
	} {
		p := Point{Labels: l, S: api.Sample{T: 40}}
		if at, err := h.Check(p); at != 0 || err != api.ErrLabel {
			t.Errorf("%d: %d, %d", i, at, err)
		}
		checks(t, h, 1, api.ErrLabel, at("a=1", 50), p)
	}
	checks(t, h, -1, api.OK, Point{Labels: nine[:8], S: api.Sample{T: 40}}, Point{Labels: label.Set{{Name: long[1:], Value: long[1:]}}, S: api.Sample{T: 40}})
}

// K2: where several errors apply, the one that the chapter names first.
func TestCheckFirstError(t *testing.T) {
	h := filled(t, Config{Series: 1, Samples: 1, Width: 10}, at("a=1", 20))
	checks(t, h, 0, api.ErrLabel, at("", -1))
	checks(t, h, 0, api.ErrLabel, at("", 1<<40))
	checks(t, h, 0, api.ErrLabel, at("", 20))
	checks(t, h, 0, api.ErrArg, at("b=1", -1))
	checks(t, h, 0, api.ErrArg, at("b=1", 1<<40))
	checks(t, h, 0, api.ErrTwice, at("a=1", 20))
	checks(t, h, 0, api.ErrOrder, at("a=1", 19))
	checks(t, h, 0, api.ErrLimit, at("a=1", 21))
	checks(t, h, 0, api.ErrLimit, at("b=1", 0))
	h.Drop(20)
	checks(t, h, 0, api.ErrTwice, at("a=1", 20))
	checks(t, h, 0, api.ErrOrder, at("b=1", 19))
	checks(t, h, 0, api.ErrLimit, at("b=1", 20))
}

// P15.1: each point as if those ahead were added; the first that has an error is told.
func TestCheckAsIfAdded(t *testing.T) {
	h := filled(t, Config{Series: 3, Samples: 6, Width: 10}, at("a=1", 20))
	checks(t, h, -1, api.OK)
	checks(t, h, -1, api.OK, points("a=1", 21, 22, 23, 24, 25)...)
	checks(t, h, 5, api.ErrLimit, points("a=1", 21, 22, 23, 24, 25, 26)...)
	checks(t, h, 1, api.ErrTwice, points("a=1", 21, 21)...)
	checks(t, h, 2, api.ErrOrder, points("a=1", 21, 25, 24)...)
	checks(t, h, 1, api.ErrTwice, points("b=1", 5, 5)...)
	checks(t, h, 1, api.ErrOrder, points("b=1", 5, 4)...)
	checks(t, h, -1, api.OK, at("b=1", 5), at("c=1", 5), at("b=1", 6), at("c=1", 6))
	checks(t, h, 2, api.ErrLimit, at("b=1", 5), at("c=1", 5), at("d=1", 5))
	checks(t, h, 3, api.ErrLimit, at("b=1", 5), at("b=1", 6), at("c=1", 5), at("d=1", 5))
	checks(t, h, 2, api.ErrOrder, at("b=1", 5), at("c=1", 5), at("c=1", 1), at("", 1))
	checks(t, h, 1, api.ErrLabel, at("b=1", 5), at("", 1), at("a=1", 1))
	checks(t, h, 3, api.ErrArg, at("b=1", 5), at("a=1", 50), at("b=1", 7), at("b=1", -7))
	has(t, "nothing was added", h, row("a=1", 20))
	stands(t, "nothing was added", h, 0, 20)
}

// P15.1: what Check lets is what may be added one by one.
func TestCheckIsOneByOne(t *testing.T) {
	for seed := range 200 {
		r := rolls(seed)
		cfg := Config{Series: 1 + r.below(3), Samples: 1 + r.below(8), Width: 10}
		h, one := empty(t, cfg), empty(t, cfg)
		before := r.castPoints(3)
		h.Add(before...)
		one.Add(before...)
		h.Drop(int64(r.below(6)))
		one.Drop(h.Floor())
		l := r.castPoints(8)
		place, want := -1, api.OK
		for i, p := range l {
			if at, err := one.Check(p); err != api.OK {
				if at != 0 {
					t.Errorf("the only one is at %d", at)
				}
				place, want = i, err
				break
			}
			one.Add(p)
		}
		checks(t, h, place, want, l...)
		h.Add(l[:max(place, 0)]...)
		if want == api.OK {
			h.Add(l...)
		}
		has(t, "what was let", h, whole(one)...)
		if t.Failed() {
			t.Fatalf("seed %d", seed)
		}
	}
}

// K3, K4: Check changes nothing: it is answered the same again, and so is all else.
func TestCheckChangesNothing(t *testing.T) {
	h := filled(t, Config{Series: 2, Samples: 4, Width: 10}, at("a=1", 20))
	dump := h.Dump()
	for range 3 {
		checks(t, h, 2, api.ErrTwice, at("a=1", 21), at("b=1", 90), at("a=1", 21))
		checks(t, h, -1, api.OK, at("b=1", 0), at("b=1", 1), at("b=1", 2))
		has(t, "the same", h, row("a=1", 20))
		stands(t, "the same", h, 0, 20)
		if !slices.Equal(h.Dump(), dump) {
			t.Errorf("%q", h.Dump())
		}
	}
}

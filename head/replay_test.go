package head

import (
	"math"
	"slices"
	"strings"
	"testing"

	"barograph/api"
	"barograph/frame"
	"barograph/leb"
)

// replayed: the head of records.
func replayed(t *testing.T, what string, cfg Config, l ...frame.Rec) *Head {
	t.Helper()
	h, err := Replay(cfg, l)
	if err != api.OK || h == nil {
		t.Fatalf("%s: %v, %d", what, h, err)
	}
	return h
}

// fails: does Replay answer this error, and no head?
func fails(t *testing.T, what string, want api.Errno, l ...frame.Rec) {
	t.Helper()
	if h, err := Replay(room, l); err != want || h != nil {
		t.Errorf("%s: %v, %d, not %d", what, h, err, want)
	}
}

// numbers: numbers of layer 1, one behind the other.
func numbers(l ...uint64) string {
	var b []byte
	for _, v := range l {
		b = leb.Uint(b, v)
	}
	return string(b)
}

// P15.1: of no records an empty head; New's error, whatever the records are.
func TestReplayOfNone(t *testing.T) {
	h := replayed(t, "none", room)
	has(t, "none", h)
	stands(t, "none", h, 0, -1)
	for _, cfg := range []Config{{}, {Series: 1, Samples: 1}, {Series: 10001, Samples: 1, Width: 1}} {
		for _, l := range [][]frame.Rec{nil, {floorOf(5)}, {{Kind: 9}}} {
			if h, err := Replay(cfg, l); h != nil || err != api.ErrArg {
				t.Errorf("%v: %v, %d", cfg, h, err)
			}
		}
	}
}

// P15.1: series, samples, floors.
func TestReplay(t *testing.T) {
	h := replayed(t, "some", room, seriesOf(4, "b=1"), sampleOf(4, 5, 5), seriesOf(2, "a=1"), sampleOf(4, 6, 6), sampleOf(2, 30, 30), floorOf(6))
	has(t, "some", h, row("a=1", 30), row("b=1", 6))
	stands(t, "some", h, 6, 30)
	same(t, "Dump", h.Dump(), floorOf(6), seriesOf(2, "a=1"), sampleOf(2, 30, 30), seriesOf(4, "b=1"), sampleOf(4, 6, 6))
	same(t, "Records", h.Records(at("b=1", 7), at("c=1", 7), at("a=1", 31)), sampleOf(4, 7, 7), seriesOf(5, "c=1"), sampleOf(5, 7, 7), sampleOf(2, 31, 31))
	h = replayed(t, "the greatest", room, seriesOf(1<<40, "a=1"), sampleOf(1<<40, 1<<40-1, math.MaxUint64), seriesOf(0, "b=1"), sampleOf(0, 0, 0))
	if rows := whole(h); len(rows) != 2 || rows[0].Samples[0] != (api.Sample{T: 1<<40 - 1, V: math.MaxUint64}) || rows[1].Samples[0] != (api.Sample{}) {
		t.Errorf("%v", rows)
	}
	stands(t, "the greatest floor", replayed(t, "the greatest floor", room, floorOf(1<<40)), 1<<40, -1)
}

// P15.1: layer 1's errors.
func TestReplayNumbers(t *testing.T) {
	const cut, long = "\x80", "\x80\x00"
	ten := strings.Repeat("\xff", 9)
	name := seriesOf(1, "a=1")
	key := set("a=1").Key()
	for _, x := range []struct {
		kind byte
		data string
		want api.Errno
	}{
		{1, "", api.ErrEnd}, {1, cut, api.ErrEnd}, {1, long + key, api.ErrForm}, {1, ten + "\x02" + key, api.ErrForm},
		{1, numbers(1<<40+1) + key, api.ErrBig}, {1, numbers(math.MaxUint64) + key, api.ErrBig}, {1, numbers(1 << 40), api.ErrEnd},
		{2, "", api.ErrEnd}, {2, cut, api.ErrEnd}, {2, long + numbers(1, 1), api.ErrForm}, {2, numbers(1<<40+1, 1, 1), api.ErrBig},
		{2, numbers(1), api.ErrEnd}, {2, numbers(1) + cut, api.ErrEnd}, {2, numbers(1) + long + numbers(1), api.ErrForm},
		{2, numbers(1, 1<<40, 1), api.ErrBig}, {2, numbers(1, math.MaxUint64, 1), api.ErrBig},
		{2, numbers(1, 5), api.ErrEnd}, {2, numbers(1, 5) + cut, api.ErrEnd}, {2, numbers(1, 5) + long, api.ErrForm}, {2, numbers(1, 5) + ten + "\x02", api.ErrForm},
		{3, "", api.ErrEnd}, {3, cut, api.ErrEnd}, {3, long, api.ErrForm}, {3, numbers(1<<40 + 1), api.ErrBig}, {3, numbers(math.MaxUint64), api.ErrBig},
	} {
		fails(t, "numbers", x.want, name, frame.Rec{Kind: x.kind, Data: x.data})
	}
}

// P15.1: label.Take's errors.
func TestReplayLabels(t *testing.T) {
	for data, want := range map[string]api.Errno{
		"":                         api.ErrEnd,
		"\x01":                     api.ErrEnd,
		"\x01\x01a":                api.ErrEnd,
		"\x01\x01a\x02b":           api.ErrEnd,
		"\x80\x00":                 api.ErrForm,
		"\x00":                     api.ErrForm,
		"\x01\x01a\x00":            api.ErrForm,
		"\x01\x010\x011":           api.ErrForm,
		"\x02\x01b\x011\x01a\x011": api.ErrForm,
		"\x02\x01a\x011\x01a\x012": api.ErrForm,
		"\x09":                     api.ErrBig,
		"\x01\x29":                 api.ErrBig,
		"\x01\x01a\x29":            api.ErrBig,
		"\x00and more":             api.ErrForm,
	} {
		fails(t, "labels", want, frame.Rec{Kind: 1, Data: numbers(1) + data})
	}
}

// P15.1: a sample of no series so far; one that is told later, or has another number, is none.
func TestReplayNoSeries(t *testing.T) {
	a, s := seriesOf(1, "a=1"), sampleOf(1, 5, 5)
	fails(t, "no series at all", api.ErrNone, s)
	fails(t, "of the number 0", api.ErrNone, sampleOf(0, 5, 5))
	fails(t, "told later", api.ErrNone, s, a)
	fails(t, "another number", api.ErrNone, a, s, sampleOf(2, 6, 6))
	fails(t, "below the floor, too", api.ErrNone, floorOf(9), s)
	fails(t, "behind others", api.ErrNone, a, s, floorOf(2), sampleOf(0, 6, 6))
}

// P15.1: another kind; bytes that are left.
func TestReplayForm(t *testing.T) {
	a, s := seriesOf(1, "a=1"), sampleOf(1, 5, 5)
	for kind := range 256 {
		if kind < 1 || kind > 3 {
			fails(t, "another kind", api.ErrForm, a, s, frame.Rec{Kind: byte(kind), Data: "\x01"})
			fails(t, "another kind", api.ErrForm, frame.Rec{Kind: byte(kind)})
		}
	}
	for _, r := range []frame.Rec{seriesOf(1, "a=1"), seriesOf(2, "b=1"), sampleOf(1, 6, 6), sampleOf(1, 5, 5), floorOf(0), floorOf(9)} {
		r.Data += "\x00"
		fails(t, "bytes are left", api.ErrForm, a, s, r)
	}
}

// K2: of a record the error that the chapter names first; of records the first one's.
func TestReplayFirstError(t *testing.T) {
	a := seriesOf(1, "a=1")
	fails(t, "a time that is cut, of no series", api.ErrEnd, frame.Rec{Kind: 2, Data: numbers(7) + "\x80"})
	fails(t, "a time that is big, of no series", api.ErrBig, frame.Rec{Kind: 2, Data: numbers(7, 1<<40, 1)})
	fails(t, "no value, of no series", api.ErrEnd, frame.Rec{Kind: 2, Data: numbers(7, 5)})
	fails(t, "no series, bytes are left", api.ErrNone, frame.Rec{Kind: 2, Data: numbers(7, 5, 5, 5)})
	fails(t, "a big number, no labels", api.ErrBig, frame.Rec{Kind: 1, Data: numbers(1<<40 + 1)})
	fails(t, "another kind first", api.ErrForm, a, frame.Rec{Kind: 4}, sampleOf(7, 5, 5))
	fails(t, "no series first", api.ErrNone, a, sampleOf(7, 5, 5), frame.Rec{Kind: 4}, floorOf(1<<41))
	fails(t, "a big floor first", api.ErrBig, a, floorOf(1<<41), sampleOf(7, 5, 5))
}

// P15.1: a sample below the floor, or not behind its series' last one, is passed over.
func TestReplayPassesOver(t *testing.T) {
	a, b := seriesOf(1, "a=1"), seriesOf(2, "b=1")
	h := replayed(t, "times", room, a, b, sampleOf(1, 5, 5), sampleOf(1, 5, 99), sampleOf(1, 4, 4), sampleOf(1, 0, 0), sampleOf(2, 4, 4), sampleOf(1, 6, 6))
	has(t, "times", h, row("a=1", 5, 6), row("b=1", 4))
	h = replayed(t, "floors", room, floorOf(10), a, b, sampleOf(1, 9, 9), sampleOf(2, 10, 10), sampleOf(1, 0, 0))
	has(t, "floors", h, row("b=1", 10))
	stands(t, "floors", h, 10, 10)
	h = replayed(t, "none added", room, floorOf(10), a, sampleOf(1, 9, 9))
	has(t, "none added", h)
	stands(t, "none added", h, 10, -1)
}

// P15.1: a floor drops, one that is below the floor so far nothing.
func TestReplayFloors(t *testing.T) {
	a := seriesOf(1, "a=1")
	h := replayed(t, "floors", room, a, sampleOf(1, 5, 5), sampleOf(1, 8, 8), floorOf(8), floorOf(3), sampleOf(1, 4, 4), sampleOf(1, 9, 9))
	has(t, "floors", h, row("a=1", 8, 9))
	stands(t, "floors", h, 8, 9)
	h = replayed(t, "all gone", room, a, sampleOf(1, 5, 5), floorOf(6))
	has(t, "all gone", h)
	stands(t, "all gone", h, 6, 5)
	h = replayed(t, "again", room, a, sampleOf(1, 5, 5), floorOf(6), sampleOf(1, 5, 5), sampleOf(1, 7, 7))
	has(t, "again", h, row("a=1", 7))
}

// P15.1: a series is there from its first sample on; its number isn't another one's, for all that.
func TestReplaySeriesWithoutSamples(t *testing.T) {
	h := replayed(t, "one", Config{Series: 1, Samples: 9, Width: 10}, seriesOf(1, "a=1"), seriesOf(7, "b=1"))
	has(t, "none", h)
	checks(t, h, -1, api.OK, at("c=1", 5))
	checks(t, h, 1, api.ErrLimit, at("a=1", 5), at("b=1", 5))
	same(t, "Dump", h.Dump(), floorOf(0))
	same(t, "Records", h.Records(at("a=1", 5)), seriesOf(8, "a=1"), sampleOf(8, 5, 5))
}

// P15.1: no limit is asked while records are replayed; Check asks for it then.
func TestReplayBeyondLimits(t *testing.T) {
	cfg := Config{Series: 1, Samples: 2, Width: 10}
	h := replayed(t, "more", cfg, seriesOf(1, "a=1"), sampleOf(1, 5, 5), sampleOf(1, 6, 6), seriesOf(2, "b=1"), sampleOf(2, 5, 5))
	has(t, "more", h, row("a=1", 5, 6), row("b=1", 5))
	checks(t, h, 0, api.ErrLimit, at("a=1", 7))
	checks(t, h, 0, api.ErrLimit, at("c=1", 7))
	checks(t, h, 0, api.ErrTwice, at("a=1", 6))
	h.Drop(6)
	checks(t, h, -1, api.OK, at("a=1", 7))
}

// P15.1: a number is that of the labels that were told last; labels have the number that was told last.
func TestReplayNumberOfOthers(t *testing.T) {
	a, b := seriesOf(1, "a=1"), seriesOf(1, "b=1")
	log := []frame.Rec{a, sampleOf(1, 5, 5), b, sampleOf(1, 4, 4), sampleOf(1, 6, 6)}
	h := replayed(t, "another one's", room, log...)
	has(t, "another one's", h, row("a=1", 5), row("b=1", 4, 6))
	back := replayed(t, "its Dump", room, h.Dump()...)
	has(t, "its Dump", back, row("a=1", 5), row("b=1", 4, 6))
	// a=1 has no number any more: what is logged of it has to tell it again.
	more := []Point{at("b=1", 8), at("a=1", 7), at("a=1", 8), at("c=1", 8)}
	for name, records := range map[string][]frame.Rec{"its log": log, "its Dump": h.Dump()} {
		back = replayed(t, name, room, slices.Concat(records, h.Records(more...))...)
		has(t, name, back, row("a=1", 5, 7, 8), row("b=1", 4, 6, 8), row("c=1", 8))
	}
	h.Add(more...)
	has(t, "more", h, row("a=1", 5, 7, 8), row("b=1", 4, 6, 8), row("c=1", 8))
	has(t, "its Dump", replayed(t, "its Dump", room, h.Dump()...), whole(h)...)
	same(t, "Records", h.Records(at("b=1", 9), at("a=1", 9)), sampleOf(1, 9, 9), sampleOf(2, 9, 9))
}

// P15.1: two numbers may lead to the same labels: that is one series.
func TestReplayTwoNumbers(t *testing.T) {
	h := replayed(t, "two", room, seriesOf(5, "a=1"), sampleOf(5, 5, 5), seriesOf(3, "a=1"), sampleOf(3, 6, 6), sampleOf(5, 7, 7), sampleOf(3, 7, 7), seriesOf(4, "b=1"), sampleOf(4, 1, 1))
	has(t, "two", h, row("a=1", 5, 6, 7), row("b=1", 1))
	same(t, "Dump", h.Dump(), floorOf(0), seriesOf(3, "a=1"), sampleOf(3, 5, 5), sampleOf(3, 6, 6), sampleOf(3, 7, 7), seriesOf(4, "b=1"), sampleOf(4, 1, 1))
	same(t, "Records", h.Records(at("c=1", 1)), seriesOf(6, "c=1"), sampleOf(6, 1, 1))
	h = replayed(t, "told twice", room, seriesOf(1, "a=1"), sampleOf(1, 5, 5), seriesOf(1, "a=1"), sampleOf(1, 6, 6))
	has(t, "told twice", h, row("a=1", 5, 6))
	same(t, "Records", h.Records(at("a=1", 7)), sampleOf(1, 7, 7))
	h = replayed(t, "one of two is another's", room, seriesOf(1, "a=1"), seriesOf(2, "a=1"), sampleOf(1, 5, 5), seriesOf(1, "b=1"), sampleOf(1, 6, 6), sampleOf(2, 7, 7))
	has(t, "one of two is another's", h, row("a=1", 5, 7), row("b=1", 6))
	same(t, "Records", h.Records(at("a=1", 8), at("b=1", 8)), sampleOf(2, 8, 8), sampleOf(1, 8, 8))
}

// K3: Replay doesn't change what it is handed, nor keep it.
func TestReplayKeepsNothing(t *testing.T) {
	l := []frame.Rec{seriesOf(1, "a=1"), sampleOf(1, 5, 5), floorOf(3)}
	kept := slices.Clone(l)
	h := replayed(t, "Replay", room, l...)
	h.Add(at("a=1", 6))
	h.Drop(6)
	same(t, "the records", l, kept...)
	clear(l)
	has(t, "the head", h, row("a=1", 6))
}

package head

import (
	"math"
	"slices"
	"testing"

	"barograph/api"
	"barograph/frame"
	"barograph/leb"
)

// seriesOf: the record of a series.
func seriesOf(number uint64, s string) frame.Rec {
	return frame.Rec{Kind: 1, Data: string(leb.Uint(nil, number)) + set(s).Key()}
}

// sampleOf: the record of a sample.
func sampleOf(number, t, v uint64) frame.Rec {
	return frame.Rec{Kind: 2, Data: string(leb.Uint(leb.Uint(leb.Uint(nil, number), t), v))}
}

// floorOf: the record of a floor.
func floorOf(v uint64) frame.Rec {
	return frame.Rec{Kind: 3, Data: string(leb.Uint(nil, v))}
}

// same: are records as wanted?
func same(t *testing.T, what string, got []frame.Rec, want ...frame.Rec) {
	t.Helper()
	if !slices.Equal(got, want) {
		t.Errorf("%s: %q, not %q", what, got, want)
	}
}

// P15.1: a record's bytes: numbers of layer 1, a key of layer 6.
func TestRecordBytes(t *testing.T) {
	h := empty(t, room)
	same(t, "Records", h.Records(Point{Labels: set("a=1"), S: api.Sample{T: 300, V: 77}}),
		frame.Rec{Kind: 1, Data: "\x01\x01\x01a\x011"}, frame.Rec{Kind: 2, Data: "\x01\xac\x02\x4d"})
	same(t, "FloorRec", []frame.Rec{FloorRec(300)}, frame.Rec{Kind: 3, Data: "\xac\x02"})
	same(t, "Dump", h.Dump(), frame.Rec{Kind: 3, Data: "\x00"})
}

// P15.1: a record of a series that is new, and one of each sample, point by point.
func TestRecords(t *testing.T) {
	h := empty(t, room)
	same(t, "of none", h.Records())
	l := []Point{at("b=1", 5), at("a=1", 5), at("b=1", 6), at("c=1", 0), at("a=1", 9)}
	want := []frame.Rec{seriesOf(1, "b=1"), sampleOf(1, 5, 5), seriesOf(2, "a=1"), sampleOf(2, 5, 5), sampleOf(1, 6, 6), seriesOf(3, "c=1"), sampleOf(3, 0, 0), sampleOf(2, 9, 9)}
	same(t, "of new ones", h.Records(l...), want...)
	same(t, "again", h.Records(l...), want...)
	has(t, "nothing was added", h)
	h.Add(l...)
	same(t, "of old ones", h.Records(at("c=1", 7), at("a=1", 10), at("b=1", 7)), sampleOf(3, 7, 7), sampleOf(2, 10, 10), sampleOf(1, 7, 7))
	same(t, "of both", h.Records(at("d=1", 7), at("a=1", 10), at("d=1", 8)), seriesOf(4, "d=1"), sampleOf(4, 7, 7), sampleOf(2, 10, 10), sampleOf(4, 8, 8))
	same(t, "of the greatest", h.Records(Point{Labels: set("a=1"), S: api.Sample{T: 1<<40 - 1, V: math.MaxUint64}}), sampleOf(2, 1<<40-1, math.MaxUint64))
}

// P15.1: a number is one more than any so far, also when series have gone: none is another one's.
func TestNumbersRise(t *testing.T) {
	h := filled(t, room, at("a=1", 1), at("b=1", 2), at("c=1", 30))
	h.Drop(10)
	same(t, "of one that was gone", h.Records(at("b=1", 10), at("d=1", 10), at("a=1", 10), at("c=1", 31)),
		seriesOf(4, "b=1"), sampleOf(4, 10, 10), seriesOf(5, "d=1"), sampleOf(5, 10, 10), seriesOf(6, "a=1"), sampleOf(6, 10, 10), sampleOf(3, 31, 31))
	h.Add(at("b=1", 10))
	h.Drop(40)
	has(t, "none", h)
	same(t, "of none", h.Records(at("c=1", 40)), seriesOf(5, "c=1"), sampleOf(5, 40, 40))
}

// P15.1: of a floor below 0 that of 0.
func TestFloorRec(t *testing.T) {
	for floor, want := range map[int64]uint64{math.MinInt64: 0, -1: 0, 0: 0, 1: 1, 127: 127, 128: 128, 1 << 40: 1 << 40} {
		same(t, "FloorRec", []frame.Rec{FloorRec(floor)}, floorOf(want))
	}
}

// P15.1: a floor, and series by rising numbers, of each its samples.
func TestDump(t *testing.T) {
	h := empty(t, room)
	same(t, "of none", h.Dump(), floorOf(0))
	h.Add(at("b=1", 5), at("a=1", 6), at("b=1", 8), at("c=1", 7), at("a=1", 30))
	want := []frame.Rec{floorOf(0), seriesOf(1, "b=1"), sampleOf(1, 5, 5), sampleOf(1, 8, 8), seriesOf(2, "a=1"), sampleOf(2, 6, 6), sampleOf(2, 30, 30), seriesOf(3, "c=1"), sampleOf(3, 7, 7)}
	for range 5 {
		same(t, "of all", h.Dump(), want...)
	}
	h.Drop(7)
	same(t, "behind a Drop", h.Dump(), floorOf(7), seriesOf(1, "b=1"), sampleOf(1, 8, 8), seriesOf(2, "a=1"), sampleOf(2, 30, 30), seriesOf(3, "c=1"), sampleOf(3, 7, 7))
	h.Drop(9)
	h.Add(at("b=1", 9))
	same(t, "one that came again", h.Dump(), floorOf(9), seriesOf(2, "a=1"), sampleOf(2, 30, 30), seriesOf(4, "b=1"), sampleOf(4, 9, 9))
	h.Drop(31)
	same(t, "all gone", h.Dump(), floorOf(31))
}

// K4: of many series, too, Dump is in one order.
func TestDumpOfMany(t *testing.T) {
	h := empty(t, room)
	want := []frame.Rec{floorOf(0)}
	for n := range uint64(60) {
		name := "n=" + string(rune('a'+n%26)) + string(rune('a'+n/26))
		h.Add(at(name, int64(n)))
		want = append(want, seriesOf(n+1, name), sampleOf(n+1, n, n))
	}
	for range 5 {
		same(t, "Dump", h.Dump(), want...)
	}
}

// K3: what is answered isn't the head's own, nor does it hang on later calls.
func TestRecordsAreNew(t *testing.T) {
	h := filled(t, room, at("a=1", 5))
	dump, log := h.Dump(), h.Records(at("a=1", 6), at("b=1", 6))
	h.Add(at("a=1", 6), at("b=1", 6))
	h.Drop(6)
	same(t, "Dump", dump, floorOf(0), seriesOf(1, "a=1"), sampleOf(1, 5, 5))
	same(t, "Records", log, sampleOf(1, 6, 6), seriesOf(2, "b=1"), sampleOf(2, 6, 6))
	clear(dump)
	clear(log)
	same(t, "Dump again", h.Dump(), floorOf(6), seriesOf(1, "a=1"), sampleOf(1, 6, 6), seriesOf(2, "b=1"), sampleOf(2, 6, 6))
}

// K7: Records of points that Check doesn't let end, too.
func TestRecordsOfAny(t *testing.T) {
	h := filled(t, room, at("a=1", 5))
	l := []Point{{}, at("a=1", -1), at("a=1", math.MinInt64), at("", math.MaxInt64), at("a=1", 5)}
	same(t, "Records", h.Records(l...), h.Records(l...)...)
}

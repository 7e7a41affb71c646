package head

import (
	"cmp"
	"maps"
	"slices"

	"barograph/api"
	"barograph/frame"
	"barograph/label"
	"barograph/leb"
)

// seriesRec: the record of a series.
func seriesRec(number int, labels label.Set) frame.Rec {
	b := leb.Uint(nil, uint64(number))
	return frame.Rec{Kind: KindSeries, Data: string(b) + labels.Key()}
}

// sampleRec: the record of a sample.
func sampleRec(number int, x api.Sample) frame.Rec {
	b := leb.Uint(nil, uint64(number))
	b = leb.Uint(b, uint64(x.T))
	b = leb.Uint(b, x.V)
	return frame.Rec{Kind: KindSamples, Data: string(b)}
}

// FloorRec: the record of a floor.
func FloorRec(floor int64) frame.Rec {
	b := leb.Uint(nil, uint64(max(floor, 0)))
	return frame.Rec{Kind: KindFloor, Data: string(b)}
}

// Records: what is to be logged of points that Check lets: new series, and samples.
func (h *Head) Records(l ...Point) []frame.Rec {
	var records []frame.Rec
	fresh := map[string]int{} // numbers that Add will give, by keys
	for _, p := range l {
		key := p.Labels.Key()
		number, told := h.told(key)
		if !told {
			number, told = fresh[key]
		}
		if !told {
			number = h.number + len(fresh) + 1
			fresh[key] = number
			records = append(records, seriesRec(number, p.Labels))
		}
		records = append(records, sampleRec(number, p.S))
	}
	return records
}

// told: the number of a series that is there, if records lead to it by one.
func (h *Head) told(key string) (int, bool) {
	s := h.series[key]
	if s == nil || s.number == noNumber {
		return 0, false
	}
	return s.number, true
}

// Dump: records that make a head like this one.
func (h *Head) Dump() []frame.Rec {
	records := []frame.Rec{FloorRec(h.floor)}
	next := h.number
	for _, s := range h.byNumber() {
		number := s.number
		if number == noNumber {
			next++
			number = next
		}
		records = append(records, seriesRec(number, s.labels))
		for _, x := range s.samples {
			records = append(records, sampleRec(number, x))
		}
	}
	return records
}

// byNumber: all series by rising numbers; those without one behind, as they came.
func (h *Head) byNumber() []*series {
	return slices.SortedFunc(maps.Values(h.series), func(a, b *series) int {
		return cmp.Or(cmp.Compare(a.number, b.number), cmp.Compare(a.place, b.place))
	})
}

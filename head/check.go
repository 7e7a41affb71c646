package head

import (
	"barograph/api"
)

// trial is what points would make of a head, which stays as it is.
type trial struct {
	head    *Head
	last    map[string]int64 // the last times of the points' series, by keys
	series  int              // how many there would be
	samples int              // likewise
}

// Check: the first point that may not be added, behind those ahead of it; -1: all may.
func (h *Head) Check(l ...Point) (int, api.Errno) {
	t := trial{head: h, last: map[string]int64{}, series: h.Series(), samples: h.Samples()}
	for i, p := range l {
		if err := t.take(p); err != api.OK {
			return i, err
		}
	}
	return -1, api.OK
}

// take: a point more, if it may be added.
func (t *trial) take(p Point) api.Errno {
	if err := p.Labels.Check(); err != api.OK {
		return err
	}
	if p.S.T < 0 || p.S.T > lastTime {
		return api.ErrArg
	}
	key := p.Labels.Key()
	last := t.lastOf(key)
	if p.S.T == last {
		return api.ErrTwice
	}
	if p.S.T < t.head.floor || p.S.T < last {
		return api.ErrOrder
	}
	if last == noTime {
		t.series++
	}
	t.samples++
	t.last[key] = p.S.T
	if t.series > t.head.cfg.Series || t.samples > t.head.cfg.Samples {
		return api.ErrLimit
	}
	return api.OK
}

// lastOf: the last time of a series, behind the points that were taken.
func (t *trial) lastOf(key string) int64 {
	if last, taken := t.last[key]; taken {
		return last
	}
	return t.head.series[key].last()
}

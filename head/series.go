package head

import (
	"cmp"
	"math"
	"slices"
	"strings"

	"barograph/api"
	"barograph/label"
)

// noNumber is that of a series to which no record's number leads; it comes behind all others.
const noNumber = math.MaxInt

// series is labels, and their samples by rising times.
type series struct {
	labels  label.Set
	key     string // the labels'
	number  int    // in records
	place   int    // in the head's index
	samples []api.Sample
}

// newSeries: without samples, without a number.
func newSeries(labels label.Set, key string) *series {
	return &series{labels: own(labels), key: key, number: noNumber}
}

// own: the same labels. Their texts are copied, too: they may be pieces of a whole log, which a series isn't to keep.
func own(labels label.Set) label.Set {
	var l label.Set
	for _, p := range labels {
		l = append(l, label.Pair{Name: strings.Clone(p.Name), Value: strings.Clone(p.Value)})
	}
	return l
}

// last: the time of the last sample; of no series, and of no samples none.
func (s *series) last() int64 {
	if s == nil || len(s.samples) == 0 {
		return noTime
	}
	return s.samples[len(s.samples)-1].T
}

// cut: the samples ahead of a time are gone; how many these were.
func (s *series) cut(to int64) int {
	n, _ := slices.BinarySearchFunc(s.samples, to, func(x api.Sample, t int64) int {
		return cmp.Compare(x.T, t)
	})
	s.samples = slices.Delete(s.samples, 0, n)
	return n
}

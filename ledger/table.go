package ledger

import (
	"cmp"
	"slices"

	"barograph/api"
	"barograph/head"
	"barograph/label"
	"barograph/merge"
)

// own: the same table, whose lists are nobody else's.
func own(l []merge.Row) []merge.Row {
	l = slices.Clone(l)
	for i, r := range l {
		l[i] = merge.Row{Labels: slices.Clone(r.Labels), Samples: slices.Clone(r.Samples)}
	}
	return l
}

// place: where a table's row of these labels is, or would be; is it there?
func place(l []merge.Row, labels label.Set) (int, bool) {
	return slices.BinarySearchFunc(l, labels, func(r merge.Row, labels label.Set) int {
		return label.Compare(r.Labels, labels)
	})
}

// placeAt: likewise a sample of that time.
func placeAt(l []api.Sample, t int64) (int, bool) {
	return slices.BinarySearchFunc(l, t, func(s api.Sample, t int64) int {
		return cmp.Compare(s.T, t)
	})
}

// with: a table, which is changed, with points more; of one time of a series the one that is there already stays.
func with(l []merge.Row, points ...head.Point) []merge.Row {
	for _, p := range points {
		i, there := place(l, p.Labels)
		if !there {
			l = slices.Insert(l, i, merge.Row{Labels: slices.Clone(p.Labels)})
		}
		if at, taken := placeAt(l[i].Samples, p.S.T); !taken {
			l[i].Samples = slices.Insert(l[i].Samples, at, p.S)
		}
	}
	return l
}

// samplesOf: those that a table has of these labels.
func samplesOf(l []merge.Row, labels label.Set) []api.Sample {
	i, there := place(l, labels)
	if !there {
		return nil
	}
	return l[i].Samples
}

// has: is a sample among others: its time, its value?
func has(l []api.Sample, s api.Sample) bool {
	i, there := placeAt(l, s.T)
	return there && l[i] == s
}

// Within: has a table all samples of another one?
func Within(small, great []merge.Row) bool {
	for _, r := range small {
		samples := samplesOf(great, r.Labels)
		for _, s := range r.Samples {
			if !has(samples, s) {
				return false
			}
		}
	}
	return true
}

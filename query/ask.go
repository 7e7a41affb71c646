package query

import (
	"slices"

	"barograph/api"
	"barograph/matcher"
	"barograph/merge"
)

// Ask is what is asked for: the series that all matchers fit, from one time on, ahead of another one.
type Ask struct {
	From, To int64
	Match    []matcher.Matcher
}

// Check: may it be?
func (a Ask) Check() api.Errno {
	for _, m := range a.Match {
		if err := m.Check(); err != api.OK {
			return err
		}
	}
	return api.OK
}

// Of: of rows what is asked for.
func (a Ask) Of(l []merge.Row) []merge.Row {
	var fitting []merge.Row
	for _, r := range l {
		if matcher.Match(r.Labels, a.Match...) {
			fitting = append(fitting, r)
		}
	}
	return merge.Between(fitting, a.From, a.To)
}

// own: the same ask, whose lists are nobody else's.
func (a Ask) own() Ask {
	a.Match = slices.Clone(a.Match)
	for i, m := range a.Match {
		a.Match[i].Values = slices.Clone(m.Values)
	}
	return a
}

package block

import (
	"barograph/api"
	"barograph/frame"
	"barograph/label"
	"barograph/leb"
)

// Index: entries as a record.
func Index(l []Entry) string {
	b := leb.Uint(nil, uint64(len(l)))
	for _, e := range l {
		b = append(b, e.Labels.Key()...)
		b = leb.Uint(b, uint64(e.From))
		b = leb.Uint(b, uint64(e.N))
		b = leb.Uint(b, uint64(e.Min))
		b = leb.Uint(b, uint64(e.Max))
	}
	return string(frame.Append(nil, frame.Rec{Kind: kindIndex, Data: string(b)}))
}

// Entries: those of an index.
func Entries(s string) ([]Entry, api.Errno) {
	r, rest, err := frame.Next(s)
	if err != api.OK {
		return nil, err
	}
	if rest != "" || r.Kind != kindIndex {
		return nil, api.ErrForm
	}
	n, rest, err := leb.TakeMost(r.Data, mostEntries)
	if err != api.OK {
		return nil, err
	}
	l, rest, err := takeEntries(rest, n)
	if err != api.OK {
		return nil, err
	}
	if rest != "" {
		return nil, api.ErrForm
	}
	return l, api.OK
}

// takeEntries: n entries that stand at the beginning of bytes, each as it should be, what is left.
func takeEntries(s string, n int) ([]Entry, string, api.Errno) {
	var l []Entry
	for i := range n {
		e, rest, err := takeEntry(s)
		if err != api.OK {
			return nil, "", err
		}
		if e.N == 0 || e.Min > e.Max {
			return nil, "", api.ErrForm
		}
		if i > 0 && label.Compare(l[i-1].Labels, e.Labels) >= 0 {
			return nil, "", api.ErrForm
		}
		l = append(l, e)
		s = rest
	}
	return l, s, api.OK
}

// takeEntry: the entry that stands at the beginning of bytes, what is left.
func takeEntry(s string) (Entry, string, api.Errno) {
	labels, rest, err := label.Take(s)
	if err != api.OK {
		return Entry{}, "", err
	}
	limits := [...]int{api.MaxText, api.MaxText, api.MaxTime, api.MaxTime}
	var v [len(limits)]int
	for i, most := range limits {
		v[i], rest, err = leb.TakeMost(rest, most)
		if err != api.OK {
			return Entry{}, "", err
		}
	}
	return Entry{Labels: labels, From: v[0], N: v[1], Min: int64(v[2]), Max: int64(v[3])}, rest, api.OK
}

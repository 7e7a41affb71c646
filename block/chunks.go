package block

import (
	"slices"

	"barograph/api"
	"barograph/frame"
	"barograph/merge"
	"barograph/xor"
)

// lay: the chunks of a table's rows, one behind the other, and an entry of each row.
func lay(table []merge.Row) (string, []Entry, api.Errno) {
	var b []byte
	var entries []Entry
	for _, r := range table {
		packed, err := pack(r.Samples)
		if err != api.OK {
			return "", nil, err
		}
		first, last := ends(r.Samples)
		entries = append(entries, Entry{Labels: r.Labels, From: len(b), N: len(packed), Min: first, Max: last})
		b = append(b, packed...)
	}
	return string(b), entries, api.OK
}

// pack: the chunks of a row's samples.
func pack(l []api.Sample) ([]byte, api.Errno) {
	var b []byte
	for part := range slices.Chunk(l, api.MaxSamples) {
		data, err := xor.Of(part)
		if err != api.OK {
			return nil, err
		}
		// Not behind b itself: frame.Append answers new memory, and would copy all that is ahead each time.
		b = append(b, frame.Append(nil, frame.Rec{Kind: kindChunk, Data: data})...)
	}
	return b, api.OK
}

// Chunks: the samples of some chunks, one behind the other.
func Chunks(s string) ([]api.Sample, api.Errno) {
	records, n := frame.All(s)
	if n < len(s) {
		return nil, api.ErrSum
	}
	var all []api.Sample
	for _, r := range records {
		l, good := chunk(r)
		if !good || len(all) > 0 && l[0].T <= all[len(all)-1].T {
			return nil, api.ErrForm
		}
		all = append(all, l...)
	}
	return all, api.OK
}

// chunk: the samples of a record, at least one; false: it is no such chunk.
func chunk(r frame.Rec) ([]api.Sample, bool) {
	if r.Kind != kindChunk {
		return nil, false
	}
	l, err := xor.Samples(r.Data)
	return l, err == api.OK && len(l) > 0
}

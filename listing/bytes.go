package listing

import (
	"barograph/api"
	"barograph/frame"
	"barograph/leb"
	"barograph/meta"
)

// kind is that of a listing's record.
const kind = 3

// Encode: as bytes.
func Encode(l Listing) string {
	b := leb.Uint(nil, uint64(l.At))
	b = leb.Uint(b, uint64(len(l.Metas)))
	for _, m := range l.Metas {
		// Not behind b itself: meta.Put answers new memory, and would copy all that is ahead each time.
		b = append(b, meta.Put(nil, m)...)
		b = leb.Uint(b, l.mark(m.ID))
	}
	return string(frame.Append(nil, frame.Rec{Kind: kind, Data: string(b)}))
}

// mark: the number that says when a block was marked, or 0.
func (l Listing) mark(id string) uint64 {
	at, marked := l.Marks[id]
	if !marked {
		return 0
	}
	return uint64(at) + 1
}

// Decode: and back.
func Decode(s string) (Listing, api.Errno) {
	r, rest, err := frame.Next(s)
	if err != api.OK {
		return Listing{}, err
	}
	if rest != "" || r.Kind != kind {
		return Listing{}, api.ErrForm
	}
	l, rest, err := take(r.Data)
	if err != api.OK {
		return Listing{}, err
	}
	if rest != "" || l.Check() != api.OK {
		return Listing{}, api.ErrForm
	}
	return l, api.OK
}

// take: the listing that stands at the beginning of bytes, what is left; whether it is as it should be isn't asked.
func take(s string) (Listing, string, api.Errno) {
	at, rest, err := leb.TakeMost(s, api.MaxTime)
	if err != api.OK {
		return Listing{}, "", err
	}
	n, rest, err := leb.TakeMost(rest, mostMetas)
	if err != api.OK {
		return Listing{}, "", err
	}
	l := New(at, nil, nil)
	for range n {
		rest, err = l.takeBlock(rest)
		if err != api.OK {
			return Listing{}, "", err
		}
	}
	return l, rest, api.OK
}

// takeBlock: one more block, and its mark, of what stands at the beginning of bytes; what is left.
func (l *Listing) takeBlock(s string) (string, api.Errno) {
	m, rest, err := meta.Take(s)
	if err != api.OK {
		return "", err
	}
	mark, rest, err := leb.TakeMost(rest, api.MaxTime+1)
	if err != api.OK {
		return "", err
	}
	l.Metas = append(l.Metas, m)
	if mark > 0 {
		l.Marks[m.ID] = mark - 1
	}
	return rest, api.OK
}

package meta

import (
	"math"
	"slices"

	"barograph/api"
	"barograph/frame"
	"barograph/ident"
	"barograph/leb"
)

// The kinds of records.
const (
	kindMeta = 1
	kindMark = 2
)

// Encode: a meta as bytes.
func Encode(m Meta) string {
	return string(frame.Append(nil, frame.Rec{Kind: kindMeta, Data: string(fields(m))}))
}

// Put: bytes, and a meta's fields behind them.
func Put(b []byte, m Meta) []byte {
	// New memory each time: spare room behind b may be somebody else's.
	return slices.Concat(b, fields(m))
}

// fields: a meta's fields.
func fields(m Meta) []byte {
	b := leb.Text(nil, m.ID)
	b = leb.Uint(b, uint64(m.Min))
	b = leb.Uint(b, uint64(m.Max))
	b = leb.Uint(b, uint64(m.Level))
	b = leb.Uint(b, uint64(m.Series))
	b = leb.Uint(b, uint64(m.Samples))
	for _, f := range m.Files {
		b = leb.Text(b, f.Name)
		b = leb.Uint(b, uint64(f.Size))
		b = leb.Uint(b, uint64(f.Sum))
	}
	b = leb.Uint(b, uint64(len(m.Sources)))
	for _, id := range m.Sources {
		b = leb.Text(b, id)
	}
	return b
}

// Take: the meta at the beginning of a text, what is left.
func Take(s string) (Meta, string, api.Errno) {
	t := taker{rest: s}
	m := t.meta()
	if t.err != api.OK {
		return Meta{}, "", t.err
	}
	return m, t.rest, api.OK
}

// Decode: the meta of bytes.
func Decode(s string) (Meta, api.Errno) {
	t := open(s, kindMeta)
	m := t.meta()
	t.demand(t.rest == "")
	if t.err != api.OK {
		return Meta{}, t.err
	}
	return m, api.OK
}

// EncodeMark: a mark of a block as bytes: when it was made.
func EncodeMark(id string, at int) string {
	b := leb.Text(nil, id)
	b = leb.Uint(b, uint64(max(at, 0)))
	return string(frame.Append(nil, frame.Rec{Kind: kindMark, Data: string(b)}))
}

// DecodeMark: the block, and when its mark was made.
func DecodeMark(s string) (string, int, api.Errno) {
	t := open(s, kindMark)
	id := t.text(ident.Len)
	at := t.number(api.MaxTime)
	t.demand(t.rest == "" && isName(id))
	if t.err != api.OK {
		return "", 0, t.err
	}
	return id, at, api.OK
}

// taker takes one thing behind the other from the beginning of bytes; its first error stays.
type taker struct {
	rest string
	err  api.Errno
}

// open: a taker of the bytes of the one record, of that kind, that a text must be.
func open(s string, kind byte) taker {
	r, rest, err := frame.Next(s)
	t := taker{rest: r.Data, err: err}
	t.demand(rest == "" && r.Kind == kind)
	return t
}

// demand: what must be so: ErrForm, if it isn't.
func (t *taker) demand(so bool) {
	if t.err == api.OK && !so {
		t.err = api.ErrForm
	}
}

// number: one of at most so much.
func (t *taker) number(most int) int {
	if t.err != api.OK {
		return 0
	}
	n, rest, err := leb.TakeMost(t.rest, most)
	t.rest, t.err = rest, err
	return n
}

// text: one of at most so many bytes.
func (t *taker) text(most int) string {
	if t.err != api.OK {
		return ""
	}
	s, rest, err := leb.TakeText(t.rest, most)
	t.rest, t.err = rest, err
	return s
}

// meta: one of which nothing is wrong.
func (t *taker) meta() Meta {
	var m Meta
	m.ID = t.text(ident.Len)
	m.Min = int64(t.number(api.MaxTime))
	m.Max = int64(t.number(api.MaxTime))
	m.Level = t.number(mostLevel)
	m.Series = t.number(mostSamples)
	m.Samples = t.number(mostSamples)
	for range parts {
		m.Files = append(m.Files, t.file())
	}
	for range t.number(MaxSources) {
		m.Sources = append(m.Sources, t.text(ident.Len))
	}
	t.demand(m.Check() == api.OK)
	return m
}

// file: what is said of one.
func (t *taker) file() File {
	var f File
	f.Name = t.text(api.MaxName)
	f.Size = t.number(api.MaxText)
	f.Sum = uint32(t.number(math.MaxUint32))
	return f
}

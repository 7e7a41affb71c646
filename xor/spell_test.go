package xor

import (
	"slices"
	"strconv"
	"strings"
	"testing"

	"barograph/api"
	"barograph/leb"
)

// number: a number's bits as n 0s and 1s.
func number(v uint64, n int) string {
	if n == 0 {
		return ""
	}
	s := strconv.FormatUint(v, 2)
	return strings.Repeat("0", n-len(s)) + s
}

// bytesOf: bits as bytes, with fill behind them to a whole byte.
func bytesOf(bits, fill string) string {
	bits += strings.Repeat(fill, (8-len(bits)%8)%8)
	var b strings.Builder
	for i := 0; i < len(bits); i += 8 {
		c, _ := strconv.ParseUint(bits[i:i+8], 2, 8)
		b.WriteByte(byte(c))
	}
	return b.String()
}

// head: what stands ahead of the row's bytes: how many samples, how many bits.
func head(n, size int) string {
	return string(leb.Uint(leb.Uint(nil, uint64(n)), uint64(size)))
}

// whole: the bytes of so many samples with these bits.
func whole(n int, bits string) string {
	return head(n, len(bits)) + bytesOf(bits, "0")
}

// firstBits: the bits of a first sample.
func firstBits(s api.Sample) string {
	return number(uint64(s.T), 41) + number(s.V, 64)
}

// changeBits: the bits of a step's change, by the chapter's words.
func changeBits(change int64) string {
	u := uint64(2 * change)
	if change < 0 {
		u = uint64(-2*change - 1)
	}
	switch {
	case u == 0:
		return "0"
	case u < 128:
		return "10" + number(u, 7)
	case u < 4096:
		return "110" + number(u, 12)
	case u < 1048576:
		return "1110" + number(u, 20)
	}
	return "1111" + number(u, 64)
}

// span is the window as places in a text of 64 bits; from 0 to 0: there is none.
type span struct {
	from, to int
}

// valueBits: the bits of an x, by the chapter's words, and the window from then on.
func (w span) valueBits(x uint64) (string, span) {
	s := number(x, 64)
	first, last := strings.IndexByte(s, '1'), strings.LastIndexByte(s, '1')
	switch {
	case first < 0:
		return "0", w
	case first >= w.from && last < w.to:
		return "10" + s[w.from:w.to], w
	}
	return "11" + number(uint64(first), 6) + number(uint64(last-first), 6) + s[first:last+1], span{first, last + 1}
}

// bitsOf: the bits of samples, by the chapter's words, in texts of 0s and 1s alone.
func bitsOf(l []api.Sample) string {
	var b strings.Builder
	var w span
	var step int64
	for i, s := range l {
		if i == 0 {
			b.WriteString(firstBits(s))
			continue
		}
		now := s.T - l[i-1].T
		b.WriteString(changeBits(now - step))
		step = now
		var bits string
		bits, w = w.valueBits(s.V ^ l[i-1].V)
		b.WriteString(bits)
	}
	return b.String()
}

// spelt: the bytes of samples.
func spelt(l []api.Sample) string {
	return whole(len(l), bitsOf(l))
}

// good: samples have just the bytes that the chapter says, and come back from them.
func good(t *testing.T, what string, l []api.Sample) {
	t.Helper()
	s, err := Of(l)
	if want := spelt(l); s != want || err != api.OK {
		t.Errorf("%s: Of: %x, not %x; %d", what, s, want, err)
	}
	if got, err := Samples(spelt(l)); !slices.Equal(got, l) || err != api.OK {
		t.Errorf("%s: Samples: %v, not %v; %d", what, got, l, err)
	}
}

// refused: are bytes refused, with nil beside an error that may be?
func refused(t *testing.T, what, s string) {
	t.Helper()
	got, err := Samples(s)
	if got != nil {
		t.Errorf("%s: %v beside %d", what, got, err)
	}
	if err != api.ErrEnd && err != api.ErrBig && err != api.ErrForm {
		t.Errorf("%s: %d for %x", what, err, s)
	}
}

// spin is numbers that look as if they were cast, the same ones each time.
type spin uint64

func (p *spin) next() uint64 {
	*p += 0x9e3779b97f4a7c15
	z := uint64(*p)
	z = (z ^ z>>30) * 0xbf58476d1ce4e5b9
	z = (z ^ z>>27) * 0x94d049bb133111eb
	return z ^ z>>31
}

// upTo: a number from 0 on, below n.
func (p *spin) upTo(n int) int {
	return int(p.next() % uint64(n))
}

// few: a number of at most so many bits, shorter ones as likely as longer ones.
func (p *spin) few(bits int) uint64 {
	return p.next() >> (64 - bits) >> p.upTo(bits)
}

// cast: n samples with steps and values of all kinds.
func (p *spin) cast(n int) []api.Sample {
	var l []api.Sample
	s := api.Sample{T: int64(p.few(30)), V: p.next()}
	step := int64(10)
	for range n {
		l = append(l, s)
		switch p.upTo(4) {
		case 0:
			step = 1 + int64(p.few(30))
		case 1:
			step = max(1, step+int64(p.few(7))-int64(p.few(7)))
		}
		s.T += step
		switch p.upTo(4) {
		case 0:
			s.V ^= p.next()
		case 1:
			s.V ^= p.few(64) << p.upTo(64)
		case 2:
			s.V ^= p.few(8) << 20
		}
	}
	return l
}

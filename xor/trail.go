package xor

import (
	"barograph/api"
	"barograph/bitrow"
)

const (
	timeBits = 41 // MaxTime itself has so many
	wordBits = 64
	mostOnes = 4 // ahead of a change's bits
)

// widths: in how many bits a change goes, by the ones ahead of it.
var widths = [mostOnes + 1]int{0, 7, 12, 20, wordBits}

// trail is what the bits of a sample hang on: the sample ahead, its step, the window.
type trail struct {
	last   api.Sample
	step   int64
	window window
}

// putFirst: the bits of a chunk's first sample.
func (t *trail) putFirst(row *bitrow.Row, s api.Sample) {
	row.Bits(uint64(s.T), timeBits)
	row.Bits(s.V, wordBits)
	t.last = s
}

// takeFirst: the sample that these bits say.
func (t *trail) takeFirst(eye *bitrow.Eye) api.Sample {
	t.last.T = int64(eye.Bits(timeBits))
	t.last.V = eye.Bits(wordBits)
	return t.last
}

// putNext: the bits of a further sample.
func (t *trail) putNext(row *bitrow.Row, s api.Sample) {
	step := s.T - t.last.T
	putChange(row, step-t.step)
	t.window.put(row, s.V^t.last.V)
	t.last, t.step = s, step
}

// takeNext: the sample that these bits say.
func (t *trail) takeNext(eye *bitrow.Eye) api.Sample {
	t.step += takeChange(eye)
	t.last.T += t.step
	t.last.V ^= t.window.take(eye)
	return t.last
}

// putChange: the bits of a step's change.
func putChange(row *bitrow.Row, change int64) {
	u := fold(change)
	ones := 0
	for bitrow.Width(u) > widths[ones] {
		ones++
	}
	row.Unary(ones, mostOnes)
	row.Bits(u, widths[ones])
}

// takeChange: the change that these bits say.
func takeChange(eye *bitrow.Eye) int64 {
	ones := eye.Unary(mostOnes)
	return unfold(eye.Bits(widths[ones]))
}

// fold: a number without a sign: 0, -1, 1, -2 are 0, 1, 2, 3.
func fold(v int64) uint64 {
	return uint64(v)<<1 ^ uint64(v>>63)
}

// unfold: the number with a sign that fold made this one of.
func unfold(u uint64) int64 {
	return int64(u>>1) ^ -int64(u&1)
}

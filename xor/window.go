package xor

import (
	"math/bits"

	"barograph/bitrow"
)

// placeBits: in how many bits a window's place goes, and its size less 1.
const placeBits = 6

// window is which bits of an x are written.
type window struct {
	ahead int // how many bits of the x are ahead of it
	size  int // how many are in it; none, as long as there is no window
}

// narrowest: the window from an x's first one to its last.
func narrowest(x uint64) window {
	ahead := wordBits - bitrow.Width(x)
	return window{ahead: ahead, size: wordBits - ahead - bits.TrailingZeros64(x)}
}

// behind: how many bits are behind the window.
func (w window) behind() int {
	return wordBits - w.ahead - w.size
}

// covers: is all of another window in this one? (Never, where this is none: all bits are behind it.)
func (w window) covers(v window) bool {
	return w.ahead <= v.ahead && w.behind() <= v.behind()
}

// put: the bits of an x; the window is then the one of which they are.
func (w *window) put(row *bitrow.Row, x uint64) {
	row.Bit(x != 0)
	if x == 0 {
		return
	}
	own := narrowest(x)
	another := !w.covers(own)
	row.Bit(another)
	if another {
		*w = own
		row.Bits(uint64(w.ahead), placeBits)
		row.Bits(uint64(w.size-1), placeBits)
	}
	row.Bits(x>>w.behind(), w.size)
}

// take: the x that these bits say.
func (w *window) take(eye *bitrow.Eye) uint64 {
	if !eye.Bit() {
		return 0
	}
	if eye.Bit() {
		w.ahead = int(eye.Bits(placeBits))
		// A window that goes beyond an x's last bit is none's; cut there it can be read, and is told by its spelling.
		w.size = min(int(eye.Bits(placeBits))+1, wordBits-w.ahead)
	}
	return eye.Bits(w.size) << w.behind()
}

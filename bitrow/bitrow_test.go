package bitrow

import (
	"math"
	"strings"
	"testing"

	"barograph/api"
)

// written: a row of the bits that a text of 0s and 1s says.
func written(s string) *Row {
	w := &Row{}
	for i := range len(s) {
		w.Bit(s[i] == '1')
	}
	return w
}

// shown: a row's bits as 0s and 1s, those that fill its last byte too.
func shown(w *Row) string {
	var b strings.Builder
	text := w.Text()
	for i := range len(text) {
		for j := 7; j >= 0; j-- {
			b.WriteByte('0' + text[i]>>j&1)
		}
	}
	return b.String()
}

// same: does a row have these bits, and zeros behind them to a whole byte, no more?
func same(t *testing.T, what string, w *Row, want string) {
	t.Helper()
	if w.Len() != len(want) {
		t.Errorf("%s: %d bits, not %d", what, w.Len(), len(want))
	}
	if got := shown(w); got != want+strings.Repeat("0", (8-len(want)%8)%8) {
		t.Errorf("%s: %s, not %s", what, got, want)
	}
}

// P3.1: the chapter's example.
func TestExample(t *testing.T) {
	var w Row
	w.Bits(5, 3)
	w.Bit(true)
	w.Unary(2, 4)
	same(t, "example", &w, "1011110")
	if w.Text() != "\xbc" {
		t.Errorf("%x", w.Text())
	}
}

// P3.1: the zero row has no bits, and no bytes.
func TestZeroRow(t *testing.T) {
	var w Row
	same(t, "zero", &w, "")
	if w.Text() != "" {
		t.Errorf("%x", w.Text())
	}
}

// P3.1: one bit more, at each place of a byte; the last byte has zeros behind them.
func TestRowBit(t *testing.T) {
	all := "1011000111010010100000000111111110"
	for i := range len(all) + 1 {
		same(t, all[:i], written(all[:i]), all[:i])
	}
}

// P3.1: the lowest bits of a number, the highest of these first; below 0 none, above 64 all.
func TestRowBits(t *testing.T) {
	const v = 0xf123456789abcde5
	full := "1111000100100011010001010110011110001001101010111100110111100101"
	for _, ahead := range []string{"", "1", "0110101"} {
		for n := range 65 {
			w := written(ahead)
			w.Bits(v, n)
			same(t, "Bits", w, ahead+full[64-n:])
		}
		for _, c := range []struct {
			n    int
			want string
		}{{-1, ""}, {-64, ""}, {math.MinInt, ""}, {65, full}, {128, full}, {math.MaxInt, full}} {
			w := written(ahead)
			w.Bits(v, c.n)
			same(t, "Bits", w, ahead+c.want)
		}
	}
}

// P3.1: ones, and a zero if they are less than most.
func TestRowUnary(t *testing.T) {
	for _, c := range []struct {
		n, most int
		want    string
	}{
		{0, 4, "0"}, {1, 4, "10"}, {3, 4, "1110"}, {4, 4, "1111"}, {5, 4, "1111"}, {math.MaxInt, 4, "1111"},
		{-1, 4, "0"}, {math.MinInt, 4, "0"}, {math.MinInt, math.MaxInt, "0"},
		{0, 1, "0"}, {1, 1, "1"}, {20, 21, strings.Repeat("1", 20) + "0"},
		{0, 0, ""}, {3, 0, ""}, {-3, 0, ""},
		{0, -1, ""}, {3, -1, ""}, {-3, -1, ""}, {-1, -3, ""}, {math.MaxInt, math.MinInt, ""}, {math.MinInt, math.MinInt, ""},
	} {
		for _, ahead := range []string{"", "0", "1111111"} {
			w := written(ahead)
			w.Unary(c.n, c.most)
			same(t, "Unary", w, ahead+c.want)
		}
	}
}

// K3: what a row's text was, later bits don't change.
func TestTextStays(t *testing.T) {
	w := written("101")
	text := w.Text()
	w.Bit(true)
	w.Bits(math.MaxUint64, 64)
	if text != "\xa0" {
		t.Errorf("%x", text)
	}
}

// P3.1: the first bits of a text, or all; below 0 none.
func TestOver(t *testing.T) {
	for _, c := range []struct {
		s       string
		n, want int
	}{
		{"", 0, 0}, {"", 1, 0}, {"", math.MaxInt, 0}, {"", -1, 0},
		{"\xff\xff", 0, 0}, {"\xff\xff", 1, 1}, {"\xff\xff", 8, 8}, {"\xff\xff", 9, 9},
		{"\xff\xff", 16, 16}, {"\xff\xff", 17, 16}, {"\xff\xff", math.MaxInt, 16},
		{"\xff\xff", -1, 0}, {"\xff\xff", math.MinInt, 0},
	} {
		r := Over(c.s, c.n)
		if r.Left() != c.want || r.Err() != api.OK {
			t.Errorf("Over %x %d: %d left, %d", c.s, c.n, r.Left(), r.Err())
		}
		for i := range c.want {
			if !r.Bit() || r.Err() != api.OK || r.Left() != c.want-i-1 {
				t.Errorf("Over %x %d, bit %d: %d left, %d", c.s, c.n, i, r.Left(), r.Err())
			}
		}
		if r.Bit() || r.Err() != api.ErrEnd {
			t.Errorf("Over %x %d, behind all: %d", c.s, c.n, r.Err())
		}
	}
}

// P3.1: bits from the first on, the highest of a byte first.
func TestEyeBit(t *testing.T) {
	all := "101100011101001010000000"
	r := Over(written(all).Text(), len(all))
	for i := range len(all) {
		if r.Bit() != (all[i] == '1') || r.Err() != api.OK {
			t.Errorf("bit %d", i)
		}
	}
}

// P3.1: a number of n bits; below 0 none, above 64 as many as 64.
func TestEyeBits(t *testing.T) {
	s := "\xf1\x23\x45\x67\x89\xab\xcd\xe5\x80"
	const v = 0xf123456789abcde5
	for _, c := range []struct {
		n     int
		want  uint64
		taken int
	}{
		{0, 0, 0}, {1, 1, 1}, {8, 0xf1, 8}, {12, 0xf12, 12}, {63, v >> 1, 63}, {64, v, 64},
		{65, v, 64}, {math.MaxInt, v, 64}, {-1, 0, 0}, {math.MinInt, 0, 0},
	} {
		r := Over(s, 72)
		if got := r.Bits(c.n); got != c.want || r.Left() != 72-c.taken || r.Err() != api.OK {
			t.Errorf("Bits %d: %x, %d left, %d", c.n, got, r.Left(), r.Err())
		}
	}
	r := Over(s, 72)
	r.Bits(3)
	if got := r.Bits(64); got != 0x891a2b3c4d5e6f2c || r.Left() != 5 {
		t.Errorf("Bits behind three: %x, %d left", got, r.Left())
	}
}

// P3.1: ones, up to a zero, which is taken, or to most.
func TestEyeUnary(t *testing.T) {
	for _, c := range []struct {
		all        string
		most, want int
		left       int
		err        api.Errno
		what       string
	}{
		{"1110101", 7, 3, 3, api.OK, "a zero is taken"},
		{"1110101", 4, 3, 3, api.OK, "a zero at the last place"},
		{"1110101", 3, 3, 4, api.OK, "to most, no zero is taken"},
		{"1110101", 1, 1, 6, api.OK, "to one"},
		{"1110101", 0, 0, 7, api.OK, "to none"},
		{"1110101", -1, 0, 7, api.OK, "to below 0"},
		{"1110101", math.MinInt, 0, 7, api.OK, "to far below 0"},
		{"1110101", math.MaxInt, 3, 3, api.OK, "to very many"},
		{"0", 5, 0, 0, api.OK, "a zero alone"},
		{"111", 3, 3, 0, api.OK, "most at the end"},
		{"", 0, 0, 0, api.OK, "none of none"},
		{"", -5, 0, 0, api.OK, "below 0 of none"},
		{"111", 4, 0, -1, api.ErrEnd, "ones alone, too few"},
		{"111", math.MaxInt, 0, -1, api.ErrEnd, "ones alone, far too few"},
		{"", 1, 0, -1, api.ErrEnd, "no bits"},
	} {
		r := Over(written(c.all).Text(), len(c.all))
		if got := r.Unary(c.most); got != c.want || r.Err() != c.err {
			t.Errorf("%s: %d, %d", c.what, got, r.Err())
		}
		if c.left >= 0 && r.Left() != c.left {
			t.Errorf("%s: %d left", c.what, r.Left())
		}
	}
}

// P3.1, K2: the first error stays, and from then on each answer is zero, even where bits are left.
func TestErrorStays(t *testing.T) {
	for what, fail := range map[string]func(r *Eye) bool{
		"Bits":  func(r *Eye) bool { return r.Bits(6) == 0 },
		"Most":  func(r *Eye) bool { return r.Bits(100) == 0 },
		"Unary": func(r *Eye) bool { return r.Unary(6) == 0 },
		"Bit":   func(r *Eye) bool { r.Bits(5); return !r.Bit() },
	} {
		r := Over("\xff", 5)
		if !fail(r) || r.Err() != api.ErrEnd {
			t.Errorf("%s: %d", what, r.Err())
		}
		for range 3 {
			if r.Bit() || r.Bits(1) != 0 || r.Bits(0) != 0 || r.Unary(1) != 0 || r.Unary(0) != 0 || r.Err() != api.ErrEnd {
				t.Errorf("%s: an answer behind the error", what)
			}
		}
	}
}

// P3.1: what takes no bits is no error where there are none.
func TestNoneOfNone(t *testing.T) {
	r := Over("\xff", 1)
	r.Bit()
	if r.Bits(0) != 0 || r.Bits(-1) != 0 || r.Unary(0) != 0 || r.Unary(-1) != 0 || r.Err() != api.OK || r.Left() != 0 {
		t.Errorf("%d", r.Err())
	}
}

// numbers: of each width the least, the greatest and one between.
func numbers() []uint64 {
	l := []uint64{0}
	for i := range 64 {
		v := uint64(1) << i
		l = append(l, v, v|v>>1, v<<1-1)
	}
	return l
}

// P3.2: whatever is put in a row comes out of it, in its order.
func TestThereAndBack(t *testing.T) {
	var w Row
	for i, v := range numbers() {
		w.Bits(v, 64)
		w.Bit(i%3 == 0)
		w.Unary(i%7, 5)
		w.Bits(v, Width(v))
		w.Unary(i, 300)
	}
	r := Over(w.Text(), w.Len())
	for i, v := range numbers() {
		if got := r.Bits(64); got != v {
			t.Fatalf("%d: %x, not %x", i, got, v)
		}
		if got := r.Bit(); got != (i%3 == 0) {
			t.Fatalf("%d: %v", i, got)
		}
		if got := r.Unary(5); got != min(i%7, 5) {
			t.Fatalf("%d: %d of at most 5", i, got)
		}
		if got := r.Bits(Width(v)); got != v {
			t.Fatalf("%d: %x, not %x", i, got, v)
		}
		if got := r.Unary(300); got != i {
			t.Fatalf("%d: %d of at most 300", i, got)
		}
	}
	if r.Left() != 0 || r.Err() != api.OK {
		t.Errorf("%d left, %d", r.Left(), r.Err())
	}
}

// P3.2: a row that ends too early is told at its end, wherever that is.
func TestCutShort(t *testing.T) {
	var w Row
	w.Bits(0x1ffff, 17)
	w.Unary(6, 9)
	for n := range w.Len() + 1 {
		r := Over(w.Text(), n)
		a, b := r.Bits(17), r.Unary(9)
		switch {
		case n < 17 && (a != 0 || b != 0 || r.Err() != api.ErrEnd):
			t.Errorf("%d bits: %x, %d, %d", n, a, b, r.Err())
		case n >= 17 && n < w.Len() && (a != 0x1ffff || b != 0 || r.Err() != api.ErrEnd):
			t.Errorf("%d bits: %x, %d, %d", n, a, b, r.Err())
		case n == w.Len() && (a != 0x1ffff || b != 6 || r.Err() != api.OK):
			t.Errorf("%d bits: %x, %d, %d", n, a, b, r.Err())
		}
	}
}

// K3: two eyes over one text don't see each other.
func TestEyesApart(t *testing.T) {
	a, b := Over("\xa5", 8), Over("\xa5", 8)
	if a.Bits(8) != 0xa5 || a.Bit() || b.Left() != 8 || b.Err() != api.OK || b.Bits(8) != 0xa5 {
		t.Error("an eye moved the other one")
	}
}

// P3.3: of how many bits a number is, without zeros ahead.
func TestWidth(t *testing.T) {
	if Width(0) != 0 {
		t.Errorf("Width 0: %d", Width(0))
	}
	for i := range 64 {
		low, high := uint64(1)<<i, uint64(1)<<i<<1-1
		if Width(low) != i+1 || Width(high) != i+1 {
			t.Errorf("Width %x, %x: %d, %d", low, high, Width(low), Width(high))
		}
	}
}

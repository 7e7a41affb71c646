package xor

import (
	"math"
	"slices"
	"strings"
	"testing"

	"barograph/api"
)

// P7.2: there and back, samples of all kinds, any number of them.
func TestThereAndBack(t *testing.T) {
	p := spin(4)
	for n := range api.MaxSamples + 1 {
		for range 5 {
			good(t, "cast", p.cast(n))
		}
	}
}

// P7.2: the two numbers ahead of the row are those of its samples and bits, in their one spelling.
func TestHeads(t *testing.T) {
	l := ofTimes(10, 20, 30)
	bits := bitsOf(l)
	row := bytesOf(bits, "0")
	size := len(bits)
	for what, s := range map[string]string{
		"nothing":                  "",
		"no number of bits":        "\x03",
		"a number cut off":         "\x80",
		"numbers cut off":          "\x03\x80",
		"a longer spelling of 3":   "\x83\x00\x75" + row,
		"a longer spelling of 117": "\x03\xf5\x00" + row,
		"a longer 0":               "\x80\x00\x00",
		"a longer 0 of bits":       "\x00\x80\x00",
		"a sample less":            head(2, size) + row,
		"two less":                 head(1, size) + row,
		"none":                     head(0, size) + row,
		"a sample more":            head(4, size) + row,
		"more samples than may be": head(121, size) + row,
		"very many samples":        strings.Repeat("\xff", 9) + "\x01" + "\x75" + row,
		"a bit less":               head(3, size-1) + row,
		"a bit more":               head(3, size+1) + row,
		"a byte's bits more":       head(3, size+3) + row,
		"more bits than there are": head(3, size+4) + row,
		"no bits":                  head(3, 0) + row,
		"very many bits":           "\x03" + strings.Repeat("\xff", 9) + "\x01" + row,
		"as many as an int":        "\x03" + strings.Repeat("\xff", 8) + "\x7f" + row,
		"more than an int":         "\x03" + strings.Repeat("\xff", 9) + "\x02" + row,
		"a byte less":              head(3, size) + row[:len(row)-1],
		"no bytes":                 head(3, size),
		"a byte more":              head(3, size) + row + "\x00",
		"another byte more":        head(3, size) + row + "x",
		"a byte ahead":             "\x00" + head(3, size) + row,
		"none, with bits":          "\x00\x01\x00",
		"none, with a byte":        "\x00\x00\x00",
		"none, with eight bits":    "\x00\x08\x00",
		"one, without bits":        "\x01\x00",
	} {
		refused(t, what, s)
	}
	refused(t, "ones behind the bits", head(3, size)+bytesOf(bits, "1"))
	good(t, "the samples themselves", l)
}

// P7.2: one sample more than may be is refused, and had it the bits of all.
func TestTooMany(t *testing.T) {
	l := even(api.MaxSamples+1, 0, 10, 1)
	refused(t, "121", spelt(l))
	refused(t, "121 as 120", whole(120, bitsOf(l)))
	refused(t, "120 as 121", whole(121, bitsOf(l[:120])))
	good(t, "120", l[:120])
}

// P7.2: times that aren't 0 to MaxTime, or don't rise, are none's.
func TestTimes(t *testing.T) {
	two := bitsOf(ofTimes(1000, 1010))
	for what, s := range map[string]string{
		"the first above MaxTime":      whole(1, number(maxTime+1, 41)+number(7, 64)),
		"the first of all ones":        whole(1, number(1<<41-1, 41)+number(7, 64)),
		"the second at the first":      whole(2, firstBits(api.Sample{T: 1000})+"00"),
		"the second ahead":             whole(2, firstBits(api.Sample{T: 1000})+changeBits(-1)+"0"),
		"the second below 0":           whole(2, firstBits(api.Sample{T: 5})+changeBits(-10)+"0"),
		"the second above MaxTime":     whole(2, firstBits(api.Sample{T: maxTime})+changeBits(1)+"0"),
		"the third at the second":      whole(3, two+changeBits(-10)+"0"),
		"the third ahead":              whole(3, two+changeBits(-11)+"0"),
		"the third above MaxTime":      whole(3, two+changeBits(maxTime-1010-10+1)+"0"),
		"the least change":             whole(2, firstBits(api.Sample{T: 1000})+"1111"+number(math.MaxUint64, 64)+"0"),
		"the greatest change":          whole(2, firstBits(api.Sample{T: 1000})+"1111"+number(math.MaxUint64-1, 64)+"0"),
		"the least change of a third":  whole(3, two+"1111"+number(math.MaxUint64, 64)+"0"),
		"the greatest one of a third":  whole(3, two+"1111"+number(math.MaxUint64-1, 64)+"0"),
		"two that go round to a third": whole(3, firstBits(api.Sample{T: 1000})+"1111"+number(math.MaxUint64, 64)+"0"+"1111"+number(math.MaxUint64-20, 64)+"0"),
	} {
		refused(t, what, s)
	}
	good(t, "the third at MaxTime", ofTimes(1000, 1010, maxTime))
}

// P7.2: a change that goes in less bits isn't spelt with more.
func TestWideChanges(t *testing.T) {
	first := firstBits(api.Sample{T: 1000, V: 7})
	third := bitsOf(ofTimes(1000, 2<<20))
	for i, width := range []int{7, 12, 20, 64} {
		ones := strings.Repeat("1", i+1)
		if width < 64 {
			ones += "0"
		}
		for _, u := range []uint64{0, 2, 1, 126, 127, 128, 4094, 4095, 4096, 1<<20 - 2, 1<<20 - 1} {
			narrower := []int{0, 7, 12, 20}[i]
			if u >= 1<<narrower {
				continue
			}
			refused(t, "a third's change", whole(3, third+ones+number(u, width)+"0"))
			if u > 0 && u%2 == 0 {
				refused(t, "a second's change", whole(2, first+ones+number(u, width)+"0"))
			}
		}
	}
}

// P7.2: an x has the bits that the window asks for, and no others.
func TestOtherWindows(t *testing.T) {
	const first = uint64(0x30)
	two := bitsOf(ofValues(0, first)) // the window is 58 to 60
	for what, bits := range map[string]string{
		"no ones in the window":              "10" + "00",
		"the window that is there, again":    "11" + number(58, 6) + number(1, 6) + "11",
		"a smaller one inside, ahead":        "11" + number(58, 6) + number(0, 6) + "1",
		"a smaller one inside, behind":       "11" + number(59, 6) + number(0, 6) + "1",
		"a zero first":                       "11" + number(56, 6) + number(4, 6) + "01111",
		"a zero last":                        "11" + number(57, 6) + number(5, 6) + "111110",
		"no ones":                            "11" + number(57, 6) + number(5, 6) + "000000",
		"a bit beyond the last":              "11" + number(63, 6) + number(1, 6) + "11",
		"a bit beyond the last, and a zero":  "11" + number(63, 6) + number(1, 6) + "10",
		"far beyond the last":                "11" + number(63, 6) + number(63, 6) + strings.Repeat("1", 64),
		"beyond the last, with bits for all": "11" + number(1, 6) + number(63, 6) + strings.Repeat("1", 64),
		"beyond the last, with bits to it":   "11" + number(1, 6) + number(63, 6) + strings.Repeat("1", 63),
	} {
		refused(t, what, whole(3, two+"0"+bits))
	}
	one := firstBits(api.Sample{T: 1000, V: 7}) + changeBits(10)
	for what, bits := range map[string]string{
		"no window yet":               "10",
		"no window yet, a bit":        "10" + "1",
		"no window yet, all bits":     "10" + strings.Repeat("1", 64),
		"no window yet, a small x":    "10" + number(1, 64),
		"the first one with zeros":    "11" + number(0, 6) + number(63, 6) + number(1, 64),
		"the first one without ones":  "11" + number(5, 6) + number(3, 6) + "0000",
		"the first one, a zero ahead": "11" + number(5, 6) + number(3, 6) + "0111",
		"the first one, a zero last":  "11" + number(5, 6) + number(3, 6) + "1110",
	} {
		refused(t, what, whole(2, one+bits))
	}
	good(t, "a window further on", ofValues(0, first, first^1<<63, 1))
}

// wild is samples whose bits were cast: their own, or others.
type wild struct {
	spin
	bits strings.Builder
	all  []api.Sample
	step int64
	w    span
	bad  bool
}

// change: a further sample's time.
func (p *wild) change() {
	u := p.few(22)
	if p.upTo(3) > 0 {
		u &^= 1
	}
	if p.upTo(20) == 0 {
		u = p.next()
	}
	if p.upTo(3) == 0 {
		u = 0
	}
	widths := []int{0, 7, 12, 20, 64}
	place := 0
	for widths[place] < 64 && u>>widths[place] != 0 {
		place++
	}
	if place < 4 && p.upTo(40) == 0 {
		place++
		p.bad = true
	}
	p.bits.WriteString(strings.Repeat("1", place))
	if place < 4 {
		p.bits.WriteString("0")
	}
	p.bits.WriteString(number(u, widths[place]))
	change := int64(u / 2)
	if u%2 == 1 {
		change = -change - 1
	}
	p.step += change
}

// value: a further sample's x.
func (p *wild) value() uint64 {
	switch p.upTo(3) {
	case 0:
		p.bits.WriteString("0")
		return 0
	case 1:
		p.bits.WriteString("10")
	default:
		from, size := p.upTo(64), p.upTo(64)
		if from+size > 63 && p.upTo(4) > 0 {
			size = 63 - from
		}
		p.bits.WriteString("11" + number(uint64(from), 6) + number(uint64(size), 6))
		p.bad = p.bad || from+size > 63
		p.w = span{from, min(from+size+1, 64)}
	}
	size := p.w.to - p.w.from
	if size == 0 {
		p.bad = true
		return 0
	}
	x := p.next() >> (64 - size)
	if p.upTo(8) > 0 {
		x |= 1 | 1<<(size-1)
	}
	p.bits.WriteString(number(x, size))
	return x << (64 - p.w.to)
}

// chunk: the bytes of some cast bits.
func (p *wild) chunk(n int) string {
	s := api.Sample{T: int64(p.few(41)), V: p.next()}
	p.bits.WriteString(firstBits(s))
	p.bad = s.T > maxTime
	p.all = append(p.all, s)
	for range n - 1 {
		p.change()
		s.T += p.step
		s.V ^= p.value()
		p.bad = p.bad || s.T > maxTime || s.T <= p.all[len(p.all)-1].T
		p.all = append(p.all, s)
	}
	return whole(n, p.bits.String())
}

// P7.2: of bits that could be samples, those that are their spelling are taken, all others refused.
func TestWild(t *testing.T) {
	taken := 0
	for i := range 40000 {
		p := &wild{spin: spin(i)}
		s := p.chunk(1 + p.upTo(6))
		if p.bad || spelt(p.all) != s {
			refused(t, "wild", s)
			continue
		}
		taken++
		if got, err := Samples(s); !slices.Equal(got, p.all) || err != api.OK {
			t.Errorf("%x: %v, not %v; %d", s, got, p.all, err)
		}
	}
	if taken < 1000 || taken > 39000 {
		t.Errorf("%d of 40000 taken: the test's own bits say little", taken)
	}
}

// oneSpelling: bytes are those of the samples that they are, or refused; twice alike.
func oneSpelling(t *testing.T, s string) {
	t.Helper()
	got, err := Samples(s)
	again, err1 := Samples(s)
	if !slices.Equal(got, again) || err != err1 {
		t.Errorf("%x: twice not alike", s)
	}
	if err != api.OK {
		refused(t, "not samples", s)
		return
	}
	if spelt(got) != s {
		t.Errorf("%x: taken as %v, which are %x", s, got, spelt(got))
	}
}

// P7.2, P1, K7: bytes of samples that are cut, or with a bit or a byte that is another one.
func TestHurt(t *testing.T) {
	p := spin(5)
	for _, n := range []int{0, 1, 2, 3, 5, 9, 17} {
		s := spelt(p.cast(n))
		for i := range s {
			refused(t, "cut", s[:i])
			refused(t, "without its beginning", s[i+1:])
			oneSpelling(t, s[:i]+s[i+1:])
			oneSpelling(t, s[:i]+"\x00"+s[i:])
			oneSpelling(t, s[:i]+"\xff"+s[i+1:])
			for j := range 8 {
				oneSpelling(t, s[:i]+string([]byte{s[i] ^ 1<<j})+s[i+1:])
			}
		}
		refused(t, "longer", s+"\x00")
		refused(t, "twice", s+s)
	}
}

// P7.2, P1, K7: any bytes.
func TestAnyBytes(t *testing.T) {
	for a := range 256 {
		oneSpelling(t, string([]byte{byte(a)}))
		for b := range 256 {
			oneSpelling(t, string([]byte{byte(a), byte(b)}))
			oneSpelling(t, string([]byte{byte(a), byte(b), 0}))
		}
	}
	p := spin(6)
	for range 20000 {
		b := make([]byte, p.upTo(60))
		for i := range b {
			b[i] = byte(p.next())
			if p.upTo(3) == 0 {
				b[i] = 0
			}
		}
		oneSpelling(t, string(b))
		size := 105 + p.upTo(200)
		row := strings.Repeat(string(b), 40)
		if want := (size + 7) / 8; len(row) > want {
			row = row[:want]
		}
		oneSpelling(t, head(1+p.upTo(4), size)+row)
	}
}

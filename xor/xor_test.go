package xor

import (
	"math"
	"slices"
	"testing"

	"barograph/api"
)

const maxTime = 1 << 40

// even: n samples of one step and one value.
func even(n int, from, step int64, v uint64) []api.Sample {
	var l []api.Sample
	for i := range n {
		l = append(l, api.Sample{T: from + int64(i)*step, V: v})
	}
	return l
}

// ofValues: samples with these values, of one step.
func ofValues(l ...uint64) []api.Sample {
	out := even(len(l), 1000, 10, 0)
	for i, v := range l {
		out[i].V = v
	}
	return out
}

// ofTimes: samples at these times, of one value.
func ofTimes(l ...int64) []api.Sample {
	var out []api.Sample
	for _, t := range l {
		out = append(out, api.Sample{T: t, V: 7})
	}
	return out
}

// P7.1: the chapter's example.
func TestExample(t *testing.T) {
	first := "00000000000000000000000000000000000001010" + "0000000000000000000000000000000000000000000000000000000000000111"
	if len(first) != 105 {
		t.Fatal("the test's own bits are wrong")
	}
	s, err := Of(ofTimes(10, 20, 30))
	if want := whole(3, first+"10"+"0010100"+"0"+"0"+"0"); s != want || err != api.OK {
		t.Errorf("%x, not %x; %d", s, want, err)
	}
	if s[:2] != "\x03\x75" {
		t.Errorf("%x", s[:2])
	}
}

// P7.1: a first sample's time has 41 bits, MaxTime's too, its value 64.
func TestFirst(t *testing.T) {
	for _, at := range []int64{0, 1, 2, 1 << 20, maxTime - 1, maxTime} {
		for _, v := range []uint64{0, 1, 1 << 63, 0x4028000000000000, math.MaxUint64} {
			good(t, "one", []api.Sample{{T: at, V: v}})
		}
	}
	// 41 bits and 64, and seven zeros behind them.
	want := "\x01\x69" + "\x80\x00\x00\x00\x00" + "\x00\x00\x00\x00\x00\x00\x00\x00" + "\x80"
	if s, err := Of([]api.Sample{{T: maxTime, V: 1}}); s != want || err != api.OK {
		t.Errorf("%x, not %x; %d", s, want, err)
	}
}

// P7.1, K1: none has two bytes; nil and empty are the same.
func TestNone(t *testing.T) {
	var c Chunk
	if c.Len() != 0 || c.Text() != "\x00\x00" {
		t.Errorf("zero: %d, %x", c.Len(), c.Text())
	}
	for _, l := range [][]api.Sample{nil, {}} {
		if s, err := Of(l); s != "\x00\x00" || err != api.OK {
			t.Errorf("Of: %x, %d", s, err)
		}
	}
	if l, err := Samples("\x00\x00"); len(l) != 0 || err != api.OK {
		t.Errorf("Samples: %v, %d", l, err)
	}
}

// P7.1: a step's change goes in the first of the widths that it goes in, with its ones ahead.
func TestChanges(t *testing.T) {
	const step = 1 << 38
	edges := []int64{0, 1, 2, 31, 32, 62, 63, 64, 65, 2046, 2047, 2048, 2049, 1<<19 - 2, 1<<19 - 1, 1 << 19, 1<<19 + 1, 1 << 30, step - 1}
	for _, change := range edges {
		for _, c := range []int64{change, -change} {
			good(t, "change", ofTimes(0, step, 2*step+c))
			good(t, "change behind an even step", ofTimes(0, step, 2*step, 3*step+c))
		}
		if change > 0 {
			good(t, "step of the second one", ofTimes(5, 5+change))
		}
	}
	good(t, "the longest step", ofTimes(0, maxTime))
	good(t, "the greatest change below 0", ofTimes(0, maxTime-1, maxTime))
	good(t, "the greatest change", ofTimes(0, 1, maxTime))
}

// P7.1: where the widths of a change begin and end.
func TestChangeWidths(t *testing.T) {
	for _, c := range []struct {
		change int64
		size   int
	}{
		{0, 1}, {1, 9}, {-1, 9}, {63, 9}, {-64, 9}, {64, 15}, {-65, 15}, {2047, 15}, {-2048, 15},
		{2048, 24}, {-2049, 24}, {1<<19 - 1, 24}, {-1 << 19, 24}, {1 << 19, 68}, {-1<<19 - 1, 68},
	} {
		const step = 1 << 30
		l := ofTimes(0, step, 2*step+c.change)
		if s, _ := Of(l); s != whole(3, bitsOf(l[:2])+changeBits(c.change)+"0") || len(changeBits(c.change)) != c.size {
			t.Errorf("%d: %x, %d bits", c.change, s, len(changeBits(c.change)))
		}
	}
}

// P7.1: an x by its bits: none, those of the window, or those of a window of its own.
func TestValues(t *testing.T) {
	var all []uint64
	v := uint64(0x4028000000000000)
	for i, c := range []struct {
		x    uint64
		bits string
	}{
		{0, "0"},
		{0x0000000000006000, "11" + "110001" + "000001" + "11"},
		{0x0000000000002000, "10" + "01"},
		{0x0000000000004000, "10" + "10"},
		{0, "0"},
		{0x0000000000006000, "10" + "11"},
		{0x000000000000e000, "11" + "110000" + "000010" + "111"},
		{0x0000000000002000, "10" + "001"},
		{0x0000000000007000, "11" + "110001" + "000010" + "111"},
		{0x0000000000008000, "11" + "110000" + "000000" + "1"},
		{0x0000000000008000, "10" + "1"},
		{0x8000000000000000, "11" + "000000" + "000000" + "1"},
		{0x0000000000000001, "11" + "111111" + "000000" + "1"},
		{0x0000000000000001, "10" + "1"},
		{0x8000000000000001, "11" + "000000" + "111111" + number(0x8000000000000001, 64)},
		{0x0000000000006000, "10" + number(0x6000, 64)},
		{0x0000000000000001, "10" + number(1, 64)},
		{math.MaxUint64, "10" + number(math.MaxUint64, 64)},
	} {
		if i == 0 {
			all = append(all, v)
		}
		v ^= c.x
		ahead := bitsOf(ofValues(all...))
		all = append(all, v)
		change := "0"
		if i == 0 {
			change = "10" + "0010100"
		}
		if s, err := Of(ofValues(all...)); s != whole(i+2, ahead+change+c.bits) || err != api.OK {
			t.Errorf("%d, %x: %x, %d", i, c.x, s, err)
		}
		good(t, "values", ofValues(all...))
	}
}

// P7.1, P7.2: windows at each place, of each size, and an x at their edges.
func TestWindows(t *testing.T) {
	for from := range 64 {
		for to := from; to < 64; to++ {
			x := uint64(1)<<from | uint64(1)<<to
			good(t, "a window", ofValues(9, 9^x))
			good(t, "inside", ofValues(0, x, x^1<<from, x, x^1<<to, x))
			if from > 0 {
				good(t, "behind it", ofValues(0, x, x^1<<(from-1), x))
			}
			if to < 63 {
				good(t, "ahead of it", ofValues(0, x, x^1<<(to+1), x))
			}
		}
	}
}

// P7.1, K2: the errors of Append, the first one named first; the chunk stays as it was.
func TestAppendErrors(t *testing.T) {
	var c Chunk
	for i, x := range []struct {
		t    int64
		want api.Errno
	}{
		{-1, api.ErrArg}, {math.MinInt64, api.ErrArg}, {maxTime + 1, api.ErrArg}, {math.MaxInt64, api.ErrArg},
		{0, api.OK}, {0, api.ErrOrder}, {-1, api.ErrArg}, {1, api.OK}, {0, api.ErrOrder}, {1, api.ErrOrder},
		{100, api.OK}, {99, api.ErrOrder}, {100, api.ErrOrder}, {-5, api.ErrArg},
		{maxTime - 1, api.OK}, {maxTime + 1, api.ErrArg}, {maxTime, api.OK}, {maxTime, api.ErrOrder}, {maxTime + 1, api.ErrArg}, {5, api.ErrOrder},
	} {
		n, text := c.Len(), c.Text()
		err := c.Append(api.Sample{T: x.t, V: uint64(i)})
		if err != x.want {
			t.Errorf("%d, time %d: %d, not %d", i, x.t, err, x.want)
		}
		if err != api.OK && (c.Len() != n || c.Text() != text) {
			t.Errorf("%d, time %d: the chunk is another one", i, x.t)
		}
		if err == api.OK && (c.Len() != n+1 || c.Text() == text) {
			t.Errorf("%d, time %d: the sample isn't there", i, x.t)
		}
	}
	if want := spelt([]api.Sample{{T: 0, V: 4}, {T: 1, V: 7}, {T: 100, V: 10}, {T: maxTime - 1, V: 14}, {T: maxTime, V: 16}}); c.Text() != want {
		t.Errorf("%x, not %x", c.Text(), want)
	}
}

// P7.1, K2: a chunk with MaxSamples takes no more; what else stands in the way is told first.
func TestFull(t *testing.T) {
	var c Chunk
	l := even(api.MaxSamples, 0, 10, 1)
	for i, s := range l {
		if err := c.Append(s); err != api.OK || c.Len() != i+1 {
			t.Fatalf("%d: %d, %d", i, err, c.Len())
		}
	}
	for _, x := range []struct {
		t    int64
		want api.Errno
	}{
		{1191, api.ErrFull}, {1200, api.ErrFull}, {maxTime, api.ErrFull},
		{1190, api.ErrOrder}, {0, api.ErrOrder}, {-1, api.ErrArg}, {maxTime + 1, api.ErrArg},
	} {
		if err := c.Append(api.Sample{T: x.t}); err != x.want {
			t.Errorf("time %d: %d, not %d", x.t, err, x.want)
		}
	}
	if c.Len() != api.MaxSamples || c.Text() != spelt(l) {
		t.Errorf("%d, %x", c.Len(), c.Text())
	}
	good(t, "full", l)
}

// P7.1, K2: Of answers Append's first error, with nothing.
func TestOfErrors(t *testing.T) {
	full := even(api.MaxSamples, 0, 10, 1)
	for _, x := range []struct {
		what string
		l    []api.Sample
		want api.Errno
	}{
		{"a time below 0", ofTimes(-1), api.ErrArg},
		{"a time above MaxTime", ofTimes(1, maxTime+1), api.ErrArg},
		{"a time twice", ofTimes(1, 2, 2, 3), api.ErrOrder},
		{"a time ahead", ofTimes(1, 2, 1), api.ErrOrder},
		{"order, then range", ofTimes(2, 1, -1), api.ErrOrder},
		{"range, then order", ofTimes(2, -1, 1), api.ErrArg},
		{"one too many", append(slices.Clone(full), api.Sample{T: 1191}), api.ErrFull},
		{"full, then range", append(slices.Clone(full), ofTimes(1191, -1)...), api.ErrFull},
		{"range at the full chunk", append(slices.Clone(full), ofTimes(-1)...), api.ErrArg},
		{"order at the full chunk", append(slices.Clone(full), ofTimes(1190)...), api.ErrOrder},
		{"far too many", even(5000, 0, 1, 1), api.ErrFull},
	} {
		if s, err := Of(x.l); s != "" || err != x.want {
			t.Errorf("%s: %x, %d, not %d", x.what, s, err, x.want)
		}
	}
}

// P7.1: Of is Append, one by one, and Text, which may be asked at any time.
func TestOfIsAppend(t *testing.T) {
	p := spin(1)
	for range 20 {
		l := p.cast(api.MaxSamples)
		var c Chunk
		for i, s := range l {
			if err := c.Append(s); err != api.OK {
				t.Fatalf("%d: %d", i, err)
			}
			one, err := Of(l[:i+1])
			if text := c.Text(); text != one || text != spelt(l[:i+1]) || err != api.OK || c.Len() != i+1 {
				t.Fatalf("%d: %x, %x, %d", i, text, one, err)
			}
		}
	}
}

// P7.3: of one step and one value, two bits each, from the third on.
func TestTwoBitsEach(t *testing.T) {
	for _, step := range []int64{1, 63, 64, 15000, maxTime / 200} {
		for _, v := range []uint64{0, 1, 0x4028000000000000, math.MaxUint64} {
			two := len(bitsOf(even(2, 3, step, v)))
			for n := 2; n <= api.MaxSamples; n++ {
				size := two + 2*(n-2)
				s, err := Of(even(n, 3, step, v))
				if h := head(n, size); len(s) != len(h)+(size+7)/8 || s[:len(h)] != h || err != api.OK {
					t.Fatalf("%d samples of step %d: %x, %d", n, step, s, err)
				}
			}
		}
	}
}

// K3: neither is what is handed in changed, nor does an answer share memory with a later one.
func TestApart(t *testing.T) {
	p := spin(2)
	l := p.cast(50)
	mine := slices.Clone(l)
	s, _ := Of(l)
	if !slices.Equal(l, mine) {
		t.Error("Of changed what it was handed")
	}
	a, _ := Samples(s)
	b, _ := Samples(s)
	a[0].V++
	_ = append(a[:1], api.Sample{T: 1})
	c, _ := Samples(s)
	if !slices.Equal(b, mine) || !slices.Equal(c, mine) {
		t.Error("answers share memory")
	}
}

// K3, K4: a chunk sees its own calls alone, and its text stays what it was.
func TestChunksApart(t *testing.T) {
	p := spin(3)
	l, m := p.cast(40), p.cast(40)
	var a, b Chunk
	for i := range l {
		a.Append(l[i])
		text := a.Text()
		b.Append(m[i])
		if a.Text() != text || text != spelt(l[:i+1]) || b.Text() != spelt(m[:i+1]) {
			t.Fatalf("%d: a chunk has another one's samples", i)
		}
	}
	text := a.Text()
	a.Append(api.Sample{T: maxTime})
	if text != spelt(l) {
		t.Error("a text that was answered is another one")
	}
}

package leb

import (
	"bytes"
	"math"
	"strings"
	"testing"

	"barograph/api"
)

// numbers: each length's first and last number, and some between.
func numbers() []uint64 {
	l := []uint64{0, 1, 2, 127, 128, 129, 300, 16383, 16384, math.MaxInt64, 1 << 63, math.MaxUint64 - 1, math.MaxUint64}
	for i := 0; i < 64; i += 7 {
		l = append(l, 1<<i-1, 1<<i, 1<<i+1)
	}
	for i := range 64 {
		l = append(l, 0x9e3779b97f4a7c15>>i)
	}
	return l
}

// spelt: a number's bytes by the chapter's words, with arithmetic alone.
func spelt(v uint64) string {
	var b []byte
	for v >= 128 {
		b = append(b, byte(v%128)+128)
		v /= 128
	}
	return string(append(b, byte(v)))
}

// texts: all of up to three bytes of some that matter, behind heads of up to nine bytes more.
func texts() []string {
	heads := []string{"", "\x80", "\xff"}
	for _, n := range []int{6, 7, 8, 9} {
		heads = append(heads, strings.Repeat("\x80", n), strings.Repeat("\xff", n))
	}
	tails := []string{""}
	for from := 0; from < len(tails); from++ {
		if len(tails[from]) == 3 {
			break
		}
		for _, c := range "\x00\x01\x02\x03\x7f" {
			tails = append(tails, tails[from]+string(c))
		}
		for _, c := range []byte{0x80, 0x81, 0xff} {
			tails = append(tails, tails[from]+string([]byte{c}))
		}
	}
	var l []string
	for _, h := range heads {
		for _, t := range tails {
			l = append(l, h+t)
		}
	}
	return l
}

// verdict: what stands in a number's way, by the chapter's words.
func verdict(s string) api.Errno {
	for i := 0; i < len(s); i++ {
		switch {
		case i == 9 && s[i] > 1:
			return api.ErrForm
		case i > 0 && s[i] == 0:
			return api.ErrForm
		case s[i] < 128:
			return api.OK
		}
	}
	return api.ErrEnd
}

// P1.1: the spellings that the chapter and its example name.
func TestSpellings(t *testing.T) {
	for _, c := range []struct {
		got  []byte
		want string
	}{
		{Uint(nil, 0), "\x00"},
		{Uint(nil, 127), "\x7f"},
		{Uint(nil, 128), "\x80\x01"},
		{Uint(nil, 300), "\xac\x02"},
		{Uint(nil, math.MaxUint64), "\xff\xff\xff\xff\xff\xff\xff\xff\xff\x01"},
		{Int(nil, 0), "\x00"},
		{Int(nil, -1), "\x01"},
		{Int(nil, 1), "\x02"},
		{Int(nil, -2), "\x03"},
		{Int(nil, 64), "\x80\x01"},
		{Int(nil, -64), "\x7f"},
		{Int(nil, math.MaxInt64), "\xfe\xff\xff\xff\xff\xff\xff\xff\xff\x01"},
		{Int(nil, math.MinInt64), "\xff\xff\xff\xff\xff\xff\xff\xff\xff\x01"},
		{Text(nil, ""), "\x00"},
		{Text(nil, "ab"), "\x02ab"},
		{Text(nil, strings.Repeat("x", 300)), "\xac\x02" + strings.Repeat("x", 300)},
	} {
		if string(c.got) != c.want {
			t.Errorf("%x, not %x", c.got, c.want)
		}
	}
	for _, v := range numbers() {
		if got := string(Uint(nil, v)); got != spelt(v) {
			t.Errorf("Uint %d: %x", v, got)
		}
	}
}

// P1.1, K3: what comes goes behind what is there, whether there is room or not; b itself stays.
func TestBehind(t *testing.T) {
	for _, c := range []struct {
		put  func(b []byte) []byte
		want string
	}{
		{func(b []byte) []byte { return Uint(b, 300) }, "\xac\x02"},
		{func(b []byte) []byte { return Int(b, -3) }, "\x05"},
		{func(b []byte) []byte { return Text(b, "ab") }, "\x02ab"},
	} {
		for _, head := range []string{"", "x", "head"} {
			for _, room := range []int{0, 1, 40} {
				b := append(make([]byte, 0, len(head)+room), head...)
				if got := string(c.put(b)); got != head+c.want || string(b) != head {
					t.Errorf("behind %q, room %d: %q; b is %q", head, room, got, b)
				}
			}
		}
	}
}

// P1.2: there and back, with what is left behind it.
func TestThereAndBack(t *testing.T) {
	for _, rest := range []string{"", "\x00", "\x80\xff", "rest"} {
		for _, v := range numbers() {
			s := string(Uint(nil, v)) + rest
			if got, left, err := TakeUint(s); got != v || left != rest || err != api.OK {
				t.Errorf("TakeUint %x: %d, %q, %d", s, got, left, err)
			}
			for _, w := range []int64{int64(v), -int64(v)} {
				s := string(Int(nil, w)) + rest
				if got, left, err := TakeInt(s); got != w || left != rest || err != api.OK {
					t.Errorf("TakeInt %x: %d, %q, %d", s, got, left, err)
				}
			}
		}
		for _, n := range []int{0, 1, 127, 128, 16384, api.MaxText} {
			text := strings.Repeat("\x80", n)
			s := string(Text(nil, text)) + rest
			if got, left, err := TakeText(s, n); got != text || left != rest || err != api.OK {
				t.Errorf("TakeText of %d bytes: %d, %q, %d", n, len(got), left, err)
			}
		}
	}
}

// P1.2: what is taken has just the bytes that it is written with.
func TestOneSpelling(t *testing.T) {
	for _, s := range texts() {
		if v, rest, err := TakeUint(s); err == api.OK && string(Uint(nil, v))+rest != s {
			t.Errorf("TakeUint %x: %d, %x", s, v, rest)
		}
		if v, rest, err := TakeInt(s); err == api.OK && string(Int(nil, v))+rest != s {
			t.Errorf("TakeInt %x: %d, %x", s, v, rest)
		}
		if v, rest, err := TakeText(s, math.MaxInt); err == api.OK && string(Text(nil, v))+rest != s {
			t.Errorf("TakeText %x: %x, %x", s, v, rest)
		}
	}
}

// P1.1, K2: of any bytes the error that the chapter names, beside zero and nothing.
func TestTakeUintErrors(t *testing.T) {
	for _, c := range []struct {
		s    string
		want api.Errno
	}{
		{"", api.ErrEnd},
		{"\x80", api.ErrEnd},
		{strings.Repeat("\xff", 9), api.ErrEnd},
		{"\x00", api.OK},
		{"\x80\x00", api.ErrForm},
		{"\x80\x80\x00", api.ErrForm},
		{"\x80\x80\x00\x01", api.ErrForm},
		{strings.Repeat("\xff", 9) + "\x00", api.ErrForm},
		{strings.Repeat("\xff", 9) + "\x01", api.OK},
		{strings.Repeat("\xff", 9) + "\x02", api.ErrForm},
		{strings.Repeat("\xff", 9) + "\x80", api.ErrForm},
		{strings.Repeat("\xff", 9) + "\x81", api.ErrForm},
		{strings.Repeat("\x80", 20), api.ErrForm},
	} {
		if _, _, err := TakeUint(c.s); err != c.want {
			t.Errorf("TakeUint %x: %d, not %d", c.s, err, c.want)
		}
	}
	for _, s := range texts() {
		u, left, err := TakeUint(s)
		if err != verdict(s) || err != api.OK && (u != 0 || left != "") {
			t.Errorf("TakeUint %x: %d, %q, %d", s, u, left, err)
		}
		v, left, err := TakeInt(s)
		if err != verdict(s) || err != api.OK && (v != 0 || left != "") {
			t.Errorf("TakeInt %x: %d, %q, %d", s, v, left, err)
		}
	}
}

// P1.1, K1, K2: a bound below 0 is 0; TakeUint's error comes first.
func TestTakeMost(t *testing.T) {
	for _, c := range []struct {
		s    string
		most int
		v    int
		left string
		err  api.Errno
	}{
		{"\x08z", 8, 8, "z", api.OK},
		{"\x08z", 9, 8, "z", api.OK},
		{"\x09z", 8, 0, "", api.ErrBig},
		{"\x00z", 0, 0, "z", api.OK},
		{"\x01z", 0, 0, "", api.ErrBig},
		{"\x00z", -1, 0, "z", api.OK},
		{"\x01z", -1, 0, "", api.ErrBig},
		{"\x01z", math.MinInt, 0, "", api.ErrBig},
		{spelt(math.MaxInt) + "z", math.MaxInt, math.MaxInt, "z", api.OK},
		{spelt(math.MaxInt + 1), math.MaxInt, 0, "", api.ErrBig},
		{spelt(math.MaxUint64), math.MaxInt, 0, "", api.ErrBig},
		{spelt(math.MaxUint64), -1, 0, "", api.ErrBig},
		{"", -1, 0, "", api.ErrEnd},
		{"\xff", 1, 0, "", api.ErrEnd},
		{"\xff\x00", 1, 0, "", api.ErrForm},
	} {
		if v, left, err := TakeMost(c.s, c.most); v != c.v || left != c.left || err != c.err {
			t.Errorf("TakeMost %x of %d: %d, %q, %d", c.s, c.most, v, left, err)
		}
	}
}

// P1.1, K1, K2: the number's error comes ahead of what is wanting behind it.
func TestTakeText(t *testing.T) {
	for _, c := range []struct {
		s    string
		most int
		v    string
		left string
		err  api.Errno
	}{
		{"\x02abc", 2, "ab", "c", api.OK},
		{"\x02ab", 2, "ab", "", api.OK},
		{"\x02ab", 1, "", "", api.ErrBig},
		{"\x02a", 2, "", "", api.ErrEnd},
		{"\x02a", 1, "", "", api.ErrBig},
		{"\x02", 2, "", "", api.ErrEnd},
		{"\x00ab", 0, "", "ab", api.OK},
		{"\x00ab", -5, "", "ab", api.OK},
		{"\x01ab", -5, "", "", api.ErrBig},
		{"", 5, "", "", api.ErrEnd},
		{"\x82\x00ab", 5, "", "", api.ErrForm},
		{spelt(math.MaxInt) + "ab", math.MaxInt, "", "", api.ErrEnd},
		{spelt(math.MaxUint64) + "ab", math.MaxInt, "", "", api.ErrBig},
	} {
		if v, left, err := TakeText(c.s, c.most); v != c.v || left != c.left || err != c.err {
			t.Errorf("TakeText %x of %d: %q, %q, %d", c.s, c.most, v, left, err)
		}
	}
}

// P1.1, K2.
func TestTakeByte(t *testing.T) {
	if c, left, err := TakeByte(""); c != 0 || left != "" || err != api.ErrEnd {
		t.Errorf("of nothing: %d, %q, %d", c, left, err)
	}
	for i := range 256 {
		s := string([]byte{byte(i)})
		for _, rest := range []string{"", "xy"} {
			if c, left, err := TakeByte(s + rest); c != byte(i) || left != rest || err != api.OK {
				t.Errorf("%x: %d, %q, %d", s+rest, c, left, err)
			}
		}
	}
}

// K1: nil and empty bytes are the same.
func TestNilIsEmpty(t *testing.T) {
	for _, v := range numbers() {
		if !bytes.Equal(Uint(nil, v), Uint([]byte{}, v)) || !bytes.Equal(Int(nil, int64(v)), Int([]byte{}, int64(v))) {
			t.Errorf("of %d they differ", v)
		}
	}
	if !bytes.Equal(Text(nil, "ab"), Text([]byte{}, "ab")) {
		t.Error("of a text they differ")
	}
}

// K3: bytes that are handed in, without spare room, aren't what is answered.
func TestAnswersAreNew(t *testing.T) {
	b := []byte("head")
	for i, got := range [][]byte{Uint(b[:4:4], 300), Int(b[:4:4], -3), Text(b[:4:4], "ab")} {
		got[0] = 'X'
		if string(b) != "head" {
			t.Errorf("call %d: b is %q", i, b)
		}
	}
}

// P1, P2, K4, K7: of any bytes each call ends, and answers twice alike.
func TestAlike(t *testing.T) {
	for _, s := range texts() {
		for _, most := range []int{math.MinInt, -1, 0, 1, 127, math.MaxInt} {
			v, left, err := TakeMost(s, most)
			if v1, left1, err1 := TakeMost(s, most); v != v1 || left != left1 || err != err1 {
				t.Errorf("TakeMost %x of %d", s, most)
			}
			text, left, err := TakeText(s, most)
			if text1, left1, err1 := TakeText(s, most); text != text1 || left != left1 || err != err1 {
				t.Errorf("TakeText %x of %d", s, most)
			}
			if err != api.OK && (text != "" || left != "") {
				t.Errorf("TakeText %x of %d: %q, %q beside error %d", s, most, text, left, err)
			}
		}
	}
}

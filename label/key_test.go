package label

import (
	"slices"
	"strings"
	"testing"

	"barograph/api"
)

// P6.1: how many pairs, and of each the name and the value, of any pairs.
func TestKey(t *testing.T) {
	long := strings.Repeat("x", 300)
	for _, c := range []struct {
		s    Set
		want string
	}{
		{nil, "\x00"},
		{pairs("a", "1"), "\x01\x01a\x011"},
		{pairs("_a1", "x y", "job", "api"), "\x02\x03_a1\x03x y\x03job\x03api"},
		{pairs("b", "2", "a", "1"), "\x02\x01b\x012\x01a\x011"},
		{pairs("", ""), "\x01\x00\x00"},
		{pairs(long, long), "\x01\xac\x02" + long + "\xac\x02" + long},
		{many(300), "\xac\x02" + strings.Join(spelt(many(300)), "")},
	} {
		if got := c.s.Key(); got != c.want {
			t.Errorf("%x, not %x", got, c.want)
		}
	}
}

// spelt: the bytes of each pair of short names and values.
func spelt(s Set) []string {
	var l []string
	for _, p := range s {
		l = append(l, string([]byte{byte(len(p.Name))})+p.Name+string([]byte{byte(len(p.Value))})+p.Value)
	}
	return l
}

// P6.2: the set, and what is left behind its key.
func TestKeyThereAndBack(t *testing.T) {
	for _, s := range good() {
		for _, rest := range []string{"", "\x00", "\x80\xff", "rest", s.Key()} {
			got, left, err := Take(s.Key() + rest)
			is(t, "Take", got, err, s, api.OK)
			if left != rest {
				t.Errorf("%q: %q is left, not %q", s, left, rest)
			}
		}
	}
}

// P6.1, K2: the first error of layer 1, from the first byte on; then that the labels may not be.
func TestTakeErrors(t *testing.T) {
	nine, eight := many(9).Key(), many(8).Key()
	for _, c := range []struct {
		s    string
		want api.Errno
	}{
		{"", api.ErrEnd},
		{"\x80", api.ErrEnd},
		{"\x01", api.ErrEnd},
		{"\x01\x01", api.ErrEnd},
		{"\x01\x01a", api.ErrEnd},
		{"\x01\x01a\x01", api.ErrEnd},
		{"\x02\x01a\x011", api.ErrEnd},
		{"\x01\x28" + name40[1:], api.ErrEnd},
		{"\x81\x00", api.ErrForm},
		{"\x01\x81\x00a\x011", api.ErrForm},
		{"\x01\x01a\x81\x001", api.ErrForm},
		{"\x09", api.ErrBig},
		{nine, api.ErrBig},
		{"\xff\xff\xff\xff\xff\xff\xff\xff\xff\x01", api.ErrBig},
		{"\xff\xff\xff\xff\xff\xff\xff\xff\xff\x02", api.ErrForm},
		{"\x01\x29" + name41 + "\x011", api.ErrBig},
		{"\x01\x29", api.ErrBig},
		{"\x01\x01a\x29" + name41, api.ErrBig},
		{"\x01\x01a\x29", api.ErrBig},
		{"\x00", api.ErrForm},
		{"\x00\x01a", api.ErrForm},
		{"\x01\x00\x011", api.ErrForm},
		{"\x01\x01a\x00", api.ErrForm},
		{"\x01\x010\x011", api.ErrForm},
		{"\x02\x01b\x011\x01a\x011", api.ErrForm},
		{"\x02\x01a\x011\x01a\x012", api.ErrForm},
		// What Check refuses waits for all that layer 1 refuses.
		{"\x02\x00\x00", api.ErrEnd},
		{"\x02\x00\x00\x29", api.ErrBig},
		{"\x02\x010\x011\x01a\x29", api.ErrBig},
		{"\x02\x01b\x011\x01a", api.ErrEnd},
		{"\x01" + eight[1:], api.OK},
	} {
		s, left, err := Take(c.s)
		if err != c.want {
			t.Errorf("%x: %d, not %d", c.s, err, c.want)
		}
		if err != api.OK && (s != nil || left != "") {
			t.Errorf("%x: %q, %q beside error %d", c.s, s, left, err)
		}
	}
}

// P6.1: of each list that may not be no set is taken.
func TestTakeBad(t *testing.T) {
	for _, s := range bad() {
		big := len(s) > api.MaxLabels
		for _, p := range s {
			big = big || len(p.Name) > api.MaxName || len(p.Value) > api.MaxName
		}
		wanted := api.ErrForm
		if big {
			wanted = api.ErrBig
		}
		got, left, err := Take(s.Key() + "rest")
		if got != nil || left != "" || err != wanted {
			t.Errorf("%q: %q, %q, %d, not %d", s, got, left, err, wanted)
		}
	}
}

// P6.1, P6.2, K4, K7: cut off anywhere, or with another byte anywhere, each key is refused, or is another set's one spelling.
func TestTakeTorn(t *testing.T) {
	for _, s := range good() {
		key := s.Key()
		for i := range len(key) {
			if got, left, err := Take(key[:i]); got != nil || left != "" || err != api.ErrEnd {
				t.Errorf("%x: %q, %q, %d", key[:i], got, left, err)
			}
			for _, c := range []byte{0, 1, 2, 8, 9, 40, 41, 'a', '=', 0x80, 0x81, 0xff} {
				torn := key[:i] + string([]byte{c}) + key[i+1:]
				got, left, err := Take(torn)
				again, leftAgain, errAgain := Take(torn)
				if !slices.Equal(got, again) || left != leftAgain || err != errAgain {
					t.Errorf("%x: another answer", torn)
				}
				if err == api.OK && (got.Check() != api.OK || got.Key()+left != torn) {
					t.Errorf("%x: %q, %q", torn, got, left)
				}
				if err != api.OK && (got != nil || left != "") {
					t.Errorf("%x: %q, %q beside error %d", torn, got, left, err)
				}
			}
		}
	}
}

// K3: what two calls answer shares no memory.
func TestTakeIsNew(t *testing.T) {
	key := pairs("a", "1", "b", "2").Key()
	first, _, _ := Take(key)
	second, _, _ := Take(key)
	first[0] = Pair{"x", "y"}
	if second[0] != (Pair{"a", "1"}) {
		t.Errorf("%q", second)
	}
}

package label

import (
	"slices"
	"strings"
	"testing"

	"barograph/api"
)

// P6.1: name=value, with commas between, of any pairs.
func TestString(t *testing.T) {
	for _, c := range []struct {
		s    Set
		want string
	}{
		{nil, ""},
		{pairs("a", "1"), "a=1"},
		{pairs("a", "1", "b", "x y"), "a=1,b=x y"},
		{pairs("b", "2", "a", "1", "b", "2"), "b=2,a=1,b=2"},
		{pairs("", ""), "="},
		{pairs("", "", "", ""), "=,="},
		{pairs("a", "=,"), "a==,"},
		{pairs("a", "\xff\x00"), "a=\xff\x00"},
	} {
		if got := c.s.String(); got != c.want {
			t.Errorf("%q, not %q", got, c.want)
		}
	}
}

// P6.1, K2: a part without = comes ahead of what Make says; behind the first = all is the value.
func TestParse(t *testing.T) {
	eight, nine := many(8).String(), many(9).String()
	for _, c := range []struct {
		text string
		want Set
		err  api.Errno
	}{
		{"a=1", pairs("a", "1"), api.OK},
		{"b=2,a=1", pairs("a", "1", "b", "2"), api.OK},
		{"c=1,_=1,B=1", pairs("B", "1", "_", "1", "c", "1"), api.OK},
		{"a==", pairs("a", "="), api.OK},
		{"a=1=2,b==3", pairs("a", "1=2", "b", "=3"), api.OK},
		{"a= ", pairs("a", " "), api.OK},
		{"a=\xff\x00\n", pairs("a", "\xff\x00\n"), api.OK},
		{name40 + "=" + name40, pairs(name40, name40), api.OK},
		{eight, many(8), api.OK},
		{"", nil, api.ErrForm},
		{"a", nil, api.ErrForm},
		{",", nil, api.ErrForm},
		{"a=1,", nil, api.ErrForm},
		{",a=1", nil, api.ErrForm},
		{"a=1,,b=2", nil, api.ErrForm},
		{"a=1,b", nil, api.ErrForm},
		{"a,b=1", nil, api.ErrForm},
		{"a=1,a=2,b", nil, api.ErrForm},
		{"a=,b", nil, api.ErrForm},
		{nine + ",b", nil, api.ErrForm},
		{"=", nil, api.ErrLabel},
		{"=1", nil, api.ErrLabel},
		{"==", nil, api.ErrLabel},
		{"a=", nil, api.ErrLabel},
		{"a=1,b=", nil, api.ErrLabel},
		{"a=1,a=1", nil, api.ErrLabel},
		{"a=2,b=1,a=1", nil, api.ErrLabel},
		{"1a=1", nil, api.ErrLabel},
		{" a=1", nil, api.ErrLabel},
		{"a =1", nil, api.ErrLabel},
		{"a=1, b=1", nil, api.ErrLabel},
		{"a-b=1", nil, api.ErrLabel},
		{"é=1", nil, api.ErrLabel},
		{name41 + "=1", nil, api.ErrLabel},
		{"a=" + name41, nil, api.ErrLabel},
		{nine, nil, api.ErrLabel},
	} {
		s, err := Parse(c.text)
		is(t, c.text, s, err, c.want, c.err)
		if err != api.OK && s != nil {
			t.Errorf("%q: not nil beside error %d", c.text, err)
		}
	}
}

// P6.2: a set's text is the set again, in whatever order its parts stand.
func TestTextThereAndBack(t *testing.T) {
	for _, s := range good() {
		got, err := Parse(s.String())
		is(t, s.String(), got, err, s, api.OK)
		parts := strings.Split(s.String(), ",")
		slices.Reverse(parts)
		got, err = Parse(strings.Join(parts, ","))
		is(t, s.String()+" back", got, err, s, api.OK)
	}
}

// P6.2: a value of any byte but a comma comes back.
func TestTextOfEachByte(t *testing.T) {
	for i := range 256 {
		if i == ',' {
			continue
		}
		s := pairs("a", string([]byte{byte(i)}), "b", string([]byte{'x', byte(i), 'y'}))
		got, err := Parse(s.String())
		is(t, s.String(), got, err, s, api.OK)
	}
}

// P1, P2, K4, K7: of any text Parse ends, answers twice alike, a set that Check lets or nil.
func TestParseAnyText(t *testing.T) {
	texts := []string{""}
	for from := 0; from < len(texts) && len(texts[from]) < 6; from++ {
		for _, c := range []string{"a", "b", "=", ",", "0", "\xff"} {
			texts = append(texts, texts[from]+c)
		}
	}
	for _, text := range texts {
		s, err := Parse(text)
		again, errAgain := Parse(text)
		if !slices.Equal(s, again) || err != errAgain {
			t.Errorf("%q: %q, %d, then %q, %d", text, s, err, again, errAgain)
		}
		if (err == api.OK) != (s.Check() == api.OK) || err != api.OK && s != nil {
			t.Errorf("%q: %q, %d", text, s, err)
		}
		form := false
		for _, part := range strings.Split(text, ",") {
			form = form || !strings.Contains(part, "=")
		}
		if form != (err == api.ErrForm) {
			t.Errorf("%q: %d", text, err)
		}
	}
}

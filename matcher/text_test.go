package matcher

import (
	"slices"
	"strings"
	"testing"

	"barograph/api"
)

// sameMatchers: are they the same, each with the same values?
func sameMatchers(a, b []Matcher) bool {
	return slices.EqualFunc(a, b, func(m, o Matcher) bool {
		return m.Kind == o.Kind && m.Name == o.Name && slices.Equal(m.Values, o.Values)
	})
}

// P13.1: the name, the sign, the values; nothing of no such kind.
func TestString(t *testing.T) {
	for _, c := range []struct {
		m    Matcher
		want string
	}{
		{ask(Is, "job", "api"), "job=api"},
		{ask(Is, "job", ""), "job="},
		{ask(IsNot, "zone", "a"), "zone!=a"},
		{ask(IsNot, "zone", ""), "zone!="},
		{ask(Begins, "host", "web"), "host^web"},
		{ask(Among, "x", "1"), "x@1"},
		{ask(Among, "x", "1", "2"), "x@1|2"},
		{ask(Among, "x", "", "2", ""), "x@|2|"},
		{ask(Among, "x", ""), "x@"},
		{ask(Among, "x", "b", "a", "b"), "x@b|a|b"},
		{Matcher{}, ""},
		{ask(0, "a", "1"), ""},
		{ask(5, "a", "1"), ""},
		{ask(-1, "a", "1"), ""},
	} {
		if got := c.m.String(); got != c.want {
			t.Errorf("%q, not %q", got, c.want)
		}
	}
}

// P13.1: of all, with commas between.
func TestFormat(t *testing.T) {
	for _, c := range []struct {
		l    []Matcher
		want string
	}{
		{nil, ""},
		{[]Matcher{}, ""},
		{[]Matcher{ask(Is, "a", "1")}, "a=1"},
		{[]Matcher{ask(Is, "job", "api"), ask(IsNot, "zone", "a"), ask(Begins, "host", "web"), ask(Among, "x", "1", "2")}, "job=api,zone!=a,host^web,x@1|2"},
		{[]Matcher{ask(Is, "b", ""), ask(Is, "a", ""), ask(Is, "b", "")}, "b=,a=,b="},
	} {
		if got := Format(c.l); got != c.want {
			t.Errorf("%q, not %q", got, c.want)
		}
	}
}

// P13.1: texts that say matchers.
func TestParse(t *testing.T) {
	for _, c := range []struct {
		text string
		want []Matcher
	}{
		{"", nil},
		{"job=api,zone!=a,host^web,x@1|2", []Matcher{ask(Is, "job", "api"), ask(IsNot, "zone", "a"), ask(Begins, "host", "web"), ask(Among, "x", "1", "2")}},
		{"a=", []Matcher{ask(Is, "a", "")}},
		{"a!=", []Matcher{ask(IsNot, "a", "")}},
		{"a@", []Matcher{ask(Among, "a", "")}},
		{"a@|", []Matcher{ask(Among, "a", "", "")}},
		{"a@|1|", []Matcher{ask(Among, "a", "", "1", "")}},
		{"a@1", []Matcher{ask(Among, "a", "1")}},
		{"a@1|1", []Matcher{ask(Among, "a", "1", "1")}},
		{"a@1|2|3|4|5|6|7|8|9|10", []Matcher{ask(Among, "a", "1", "2", "3", "4", "5", "6", "7", "8", "9", "10")}},
		{"a@|||||||||", []Matcher{ask(Among, "a", copies(10, "")...)}},
		{"b=2,a=1,b=2", []Matcher{ask(Is, "b", "2"), ask(Is, "a", "1"), ask(Is, "b", "2")}},
		{" a = b ", []Matcher{ask(Is, " a ", " b ")}},
		{"\xff\x00^\xfe\n", []Matcher{ask(Begins, "\xff\x00", "\xfe\n")}},
		{"é!=é", []Matcher{ask(IsNot, "é", "é")}},
		{text40 + "=" + text40, []Matcher{ask(Is, text40, text40)}},
		{text40 + "@" + text40 + "|" + text40, []Matcher{ask(Among, text40, text40, text40)}},
	} {
		got, err := Parse(c.text)
		if err != api.OK || !sameMatchers(got, c.want) {
			t.Errorf("%q: %q, %d", c.text, got, err)
		}
	}
}

// P13.1: texts that say no matchers; nil beside the error.
func TestParseErrors(t *testing.T) {
	for _, text := range []string{
		",", "a", "a|b", "a=1,", ",a=1", "a=1,,b=1", "a=1,b", "b,a=1", " ",
		"=", "=1", "!=1", "^1", "@1", "@", "!", "!=",
		"a!", "a!b", "a!b=1", "a!!=1", "a!^1", "a! =1", "a!@1", "a!,b=1",
		"a^", "a=1,a^", "a^,b=1",
		"a=1=2", "a==", "a=!1", "a=^1", "a=@1", "a=1|2", "a=|",
		"a!=1|2", "a!==1", "a!=1!", "a!=1^", "a!=1@2",
		"a^1|2", "a^=1", "a^1=", "a^^1", "a^!=1", "a^1@",
		"a@1=2", "a@=", "a@!1", "a@1|^2", "a@1@2", "a@1|2!=3",
		"a|b=1", "|=1", "a|@1",
		"a@1|2|3|4|5|6|7|8|9|10|11", "a@||||||||||",
		text41 + "=1", "a=" + text41, text80 + "!=1", "a!=" + text41, "a^" + text41, "a@1|" + text41,
	} {
		if got, err := Parse(text); err != api.ErrForm || got != nil {
			t.Errorf("%q: %q, %d", text, got, err)
		}
	}
}

// wellFormed: by the chapter's words, all texts of at most so many bytes in which the name's and values' only byte is an a.
func wellFormed(most int) map[string]int {
	texts := map[string]int{"": 0}
	var single []string
	for name := 1; name <= most; name++ {
		for value := 0; name+value <= most; value++ {
			head, tail := strings.Repeat("a", name), strings.Repeat("a", value)
			single = append(single, head+"="+tail, head+"!="+tail)
			if value > 0 {
				single = append(single, head+"^"+tail)
			}
		}
		for bits := range 1 << most {
			values := ""
			for i := range most {
				values += []string{"a", "|"}[bits>>i&1]
			}
			for n := range most + 1 {
				single = append(single, strings.Repeat("a", name)+"@"+values[:n])
			}
		}
	}
	rows := []string{""}
	for len(rows) > 0 {
		var longer []string
		for _, row := range rows {
			for _, s := range single {
				next := strings.TrimPrefix(row+","+s, ",")
				if len(next) <= most && texts[next] == 0 {
					texts[next] = 1
					longer = append(longer, next)
				}
			}
		}
		rows = longer
	}
	return texts
}

// P13.1, P13.3: of all texts of a few bytes just those that are well formed are parsed, each to what is that text again.
func TestParseAnyText(t *testing.T) {
	const most = 6
	good := wellFormed(most)
	texts := []string{""}
	for from := 0; from < len(texts); from++ {
		l, err := Parse(texts[from])
		_, may := good[texts[from]]
		switch {
		case !may && (err != api.ErrForm || l != nil):
			t.Errorf("%q: %q, %d", texts[from], l, err)
		case may && (err != api.OK || Format(l) != texts[from]):
			t.Errorf("%q: %q, %d", texts[from], l, err)
		}
		for _, m := range l {
			if m.Check() != api.OK {
				t.Errorf("%q: %q", texts[from], m)
			}
		}
		if len(texts[from]) < most {
			for _, c := range "a=!^@,|" {
				texts = append(texts, texts[from]+string(c))
			}
		}
	}
}

// P13.3: matchers come back of their text, one by one, and in rows.
func TestThereAndBack(t *testing.T) {
	var l []Matcher
	for _, name := range []string{"a", "job", "1 \xff", text40} {
		for _, v := range []string{"", "1", "web 7", "\x00\xff", text40} {
			l = append(l, ask(Is, name, v), ask(IsNot, name, v), ask(Among, name, v), ask(Among, name, "", v, v), ask(Among, name, copies(10, v)...))
			if v != "" {
				l = append(l, ask(Begins, name, v))
			}
		}
	}
	for i, m := range l {
		for _, row := range [][]Matcher{{m}, {m, l[0], m}, l[:i], l[i:]} {
			got, err := Parse(Format(row))
			if err != api.OK || !sameMatchers(got, row) {
				t.Errorf("%q: %q, %d", row, got, err)
			}
		}
	}
}

// K3, K4: what is answered is new each time, and no two matchers share a list.
func TestParseIsNew(t *testing.T) {
	const text = "a@1|2,a@1|2,b=1"
	one, _ := Parse(text)
	two, _ := Parse(text)
	one[0].Values[0] = "9"
	one[0].Values = append(one[0].Values, "8")
	one[1].Name = "q"
	one[2].Values[0] = "7"
	if Format(two) != text || one[1].Values[0] != "1" {
		t.Errorf("%q, %q", one, two)
	}
	if again, _ := Parse(text); Format(again) != text {
		t.Errorf("%q", again)
	}
}

// P1: long texts end soon.
func TestParseLongTexts(t *testing.T) {
	const many = 200000
	long := strings.Repeat("a=1,", many)
	if l, err := Parse(long[:len(long)-1]); err != api.OK || len(l) != many {
		t.Errorf("%d, %d", len(l), err)
	}
	for _, text := range []string{long, strings.Repeat(",", many), strings.Repeat("=", many), strings.Repeat("a", many), "a@" + strings.Repeat("|", many)} {
		if l, err := Parse(text); err != api.ErrForm || l != nil {
			t.Errorf("%.9q: %d, %d", text, len(l), err)
		}
	}
}

package script

import (
	"math"
	"math/big"
	"math/rand"
	"reflect"
	"regexp"
	"slices"
	"strings"
	"testing"

	"barograph/api"
	"barograph/head"
	"barograph/label"
	"barograph/matcher"
)

// point: of labels as a text.
func point(labels string, t int64, v uint64) head.Point {
	l, _ := label.Parse(labels)
	return head.Point{Labels: l, S: api.Sample{T: t, V: v}}
}

// match: the matchers of a text.
func match(s string) []matcher.Matcher {
	l, _ := matcher.Parse(s)
	return l
}

// numbers: a step of a kind that has numbers alone.
func numbers(kind int, n ...int64) Step {
	return Step{Kind: kind, N: n}
}

// plain: the same step, in which no list is an empty one that isn't nil.
func plain(x Step) Step {
	x.N, x.Points, x.Match = append([]int64(nil), x.N...), append([]head.Point(nil), x.Points...), append([]matcher.Matcher(nil), x.Match...)
	return x
}

// same: are they the same steps?
func same(a, b []Step) bool {
	return slices.EqualFunc(a, b, func(x, y Step) bool { return reflect.DeepEqual(plain(x), plain(y)) })
}

const (
	name40 = "a234567890123456789012345678901234567890"
	most   = "1099511627776"        // 2^40
	above  = "1099511627777"        // and one more
	full   = "18446744073709551615" // 2^64 - 1
)

// spelled is a line, and its step.
type spelled struct {
	line string
	step Step
}

// spellings: a line of each form at least.
func spellings() []spelled {
	return []spelled{
		{"append a=1 5 77", Step{Kind: 1, Points: []head.Point{point("a=1", 5, 77)}}},
		{"append a=1 0 0", Step{Kind: 1, Points: []head.Point{point("a=1", 0, 0)}}},
		{"append a=1 1 10;b=1,c=x 2 20;a=1 25 30", Step{Kind: 1, Points: []head.Point{point("a=1", 1, 10), point("b=1,c=x", 2, 20), point("a=1", 25, 30)}}},
		{"append A=1,_=1,a== " + most + " " + full, Step{Kind: 1, Points: []head.Point{point("A=1,_=1,a==", 1<<40, math.MaxUint64)}}},
		{"append " + name40 + "=#\t\r\xff 1 1;" + name40 + "=\x00 1 1", Step{Kind: 1, Points: []head.Point{point(name40+"=#\t\r\xff", 1, 1), point(name40+"=\x00", 1, 1)}}},
		{"append a=1,b=1,c=1,d=1,e=1,f=1,g=1,h=" + name40 + " 1 1", Step{Kind: 1, Points: []head.Point{point("a=1,b=1,c=1,d=1,e=1,f=1,g=1,h="+name40, 1, 1)}}},
		{"cut", numbers(2)},
		{"checkpoint", numbers(3)},
		{"ship 1", numbers(4, 1)},
		{"ship 0", numbers(4, 0)},
		{"compact 20", numbers(5, 20)},
		{"sweep 1001", numbers(6, 1001)},
		{"update " + most, numbers(7, 1<<40)},
		{"ask 1 0 9", numbers(8, 1, 0, 9)},
		{"ask 0 9 0", numbers(8, 0, 9, 0)},
		{"ask " + most + " " + most + " " + most, numbers(8, 1<<40, 1<<40, 1<<40)},
		{"ask 7 0 100 a=1", Step{Kind: 8, N: []int64{7, 0, 100}, Match: match("a=1")}},
		{"ask 7 0 100 job=api,zone!=a,host^web,x@1|2", Step{Kind: 8, N: []int64{7, 0, 100}, Match: match("job=api,zone!=a,host^web,x@1|2")}},
		{"ask 7 0 100 b=,a!=,c@|;,b=#", Step{Kind: 8, N: []int64{7, 0, 100}, Match: match("b=,a!=,c@|;,b=#")}},
		{"read 1 9", numbers(9, 1, 9)},
		{"result 1", numbers(10, 1)},
		{"tick 1000", numbers(11, 1000)},
		{"crash", numbers(12)},
		{"crash 3", numbers(12, 3)},
		{"crash 3 4 0 " + most, numbers(12, 3, 4, 0, 1<<40)},
		{"recover", numbers(13)},
		{"disk 1 0", numbers(14, 1, 0)},
		{"bucket 0 1", numbers(15, 0, 1)},
		{"bucket 3 2", numbers(15, 3, 2)},
	}
}

// parses: is it the steps of a text?
func parses(t *testing.T, text string, want ...Step) {
	t.Helper()
	if l, n, err := Parse(text); err != api.OK || n != 0 || !same(l, want) {
		t.Errorf("%q: %v, line %d, %d, not %v", text, l, n, err, want)
	}
}

// refuses: is this line the first one of a text that is none?
func refuses(t *testing.T, text string, line int) {
	t.Helper()
	if l, n, err := Parse(text); err != api.ErrForm || n != line || l != nil {
		t.Errorf("%q: %v, line %d, %d, not line %d", text, l, n, err, line)
	}
}

// P26.1: each line, and its step; there and back.
func TestLines(t *testing.T) {
	var text string
	var steps []Step
	kinds := map[int]int{}
	for _, c := range spellings() {
		parses(t, c.line, c.step)
		parses(t, c.line+"\n", c.step)
		if s := Format([]Step{c.step}); s != c.line+"\n" {
			t.Errorf("%v: %q", c.step, s)
		}
		text += c.line + "\n"
		steps = append(steps, c.step)
		kinds[c.step.Kind]++
	}
	parses(t, text, steps...)
	if s := Format(steps); s != text {
		t.Errorf("%q, not %q", s, text)
	}
	if len(kinds) != 15 {
		t.Errorf("%v", kinds)
	}
}

// The kinds' numbers are the document's.
func TestKinds(t *testing.T) {
	for i, kind := range []int{Append, Cut, Checkpoint, Ship, Compact, Sweep, Update, Ask, Read, Result, Tick, Crash, Recover, Disk, Bucket} {
		if kind != i+1 {
			t.Errorf("%d is %d", i+1, kind)
		}
	}
}

// P26.1: empty lines, and those that begin with #, say nothing; they count.
func TestSilentLines(t *testing.T) {
	for _, text := range []string{"", "\n", "\n\n\n", "#", "#\n", "# cut", "#cut\n", "##\n\n# \n#\xff", "#ship"} {
		parses(t, text)
	}
	parses(t, "\n# one\ncut\n\n#\nship 1\n#", numbers(2), numbers(4, 1))
	parses(t, "cut\n\n\ncut", numbers(2), numbers(2))
	refuses(t, "x", 1)
	refuses(t, "\nx", 2)
	refuses(t, "# one\n\ncut\n#\nx\ncut\ny\n", 5)
	refuses(t, "cut\nship\nx", 2)
	refuses(t, " # one", 1)
	refuses(t, " ", 1)
	refuses(t, "cut\n \n", 2)
	refuses(t, "cut\r\ncut\r\n", 1)
	refuses(t, "cut#", 1)
	refuses(t, "cut # one", 1)
	refuses(t, strings.Repeat("\n", 1000)+"x", 1001)
}

// wrongs: lines that are none.
func wrongs() []string {
	l := []string{
		"appen a=1 1 1", "appends a=1 1 1", "Append a=1 1 1", "a=1 1 1", "cuts", "CUT", "é", "\x00", "1", ";",
		"append", "append ", "append a=1", "append a=1 1", "append a=1 1 ", "append a=1 1 1 ", "append  a=1 1 1", "append a=1  1 1", "append a=1 1 1 1", "append a=1 1 1;", "append ;a=1 1 1", "append a=1 1 1;;b=1 1 1",
		"append a=1 1 1; b=1 1 1", "append a=1 1 1 ;b=1 1 1", "append a=1 1 1;b=1", "append a=1 1;1 b=1 1 1", "append a=1\t1\t1",
		"append 1 1", "append  1 1", "append a 1 1", "append a= 1 1", "append =1 1 1", "append 1=a 1 1", "append a=1,a=1 1 1", "append a=1,a=2 1 1", "append b=1,a=1 1 1", "append a=1,b=1,B=1 1 1", "append a=1, 1 1", "append ,a=1 1 1", "append a=1,,b=1 1 1", "append a=x y 1 1", "append a=;x 1 1", "append a=x;y=1 1 1",
		"append b" + name40 + "=1 1 1", "append a=b" + name40 + " 1 1", "append a=1,b=1,c=1,d=1,e=1,f=1,g=1,h=1,i=1 1 1",
		"cut ", "cut 1", " cut", "checkpoint ", "checkpoint 0", "recover ", "recover 1", "cut cut",
		"ask", "ask 1", "ask 1 0", "ask 1 0 ", "ask 1 0 9 ", "ask 1 0 9  ", "ask 1 0 9 a", "ask 1 0 9 a=1 ", "ask 1 0 9  a=1", "ask 1 0 9 a=1 b=1", "ask 1 0 9 a=1, b=1", "ask 1 0 9 a=1,", "ask 1 0 9 a=x y", "ask 1 0 9 a!1", "ask 1 0 9 a^", "ask 1 0 9 1", "ask 1 0 a=1", "ask a=1 1 0 9", "ask 1 0 9 a@||||||||||", "ask 1 0 9 a=1|2",
		"read", "read 1", "read 1 ", "read 1 1 1", "read  1", "disk 1", "disk 1 1 1", "bucket 1", "bucket  1 1", "bucket 1 0 ", "disk 0 x",
		"crash ", "crash  1", "crash 1 ", "crash x", "crash 1 x", "crash 1  1", "crash 1,2",
	}
	for _, word := range []string{"ship", "compact", "sweep", "update", "result", "tick"} {
		l = append(l, word, word+" ", word+" 1 ", word+"  1", word+" 1 1", word+"1")
	}
	for _, s := range []string{"-1", "+1", "01", "00", "-0", "1.0", "1e3", "0x1", "1_0", "x", "1x", "", "٣", above, "18446744073709551616", "99999999999999999999999999"} {
		l = append(l, "ship "+s, "tick "+s, "ask "+s+" 1 1", "ask 1 "+s+" 1", "ask 1 1 "+s, "ask 1 1 "+s+" a=1", "read "+s+" 1", "read 1 "+s, "crash "+s, "crash 1 "+s, "disk "+s+" 1", "disk 1 "+s, "bucket "+s+" 1", "append a=1 "+s+" 1", "append a=1 1 1;a=1 "+s+" 1")
		if s != above {
			l = append(l, "append a=1 1 "+s)
		}
	}
	return l
}

// P26.1: a line that is none is told, wherever it stands; no step is answered beside it.
func TestWrongLines(t *testing.T) {
	for _, s := range wrongs() {
		refuses(t, s, 1)
		refuses(t, s+"\n"+s, 1)
		refuses(t, "cut\n"+s+"\ncut\n", 2)
		refuses(t, "\n# one\n\n"+s, 4)
	}
}

// P26.1, K6, K7: steps that no line says are written without a panic: numbers that aren't there as 0, one of no such kind not at all.
func TestFormatAnySteps(t *testing.T) {
	for _, c := range []struct {
		l    []Step
		want string
	}{
		{nil, ""},
		{[]Step{{}}, ""},
		{[]Step{{Kind: -1}, {Kind: 16, N: []int64{1}}, {Kind: math.MaxInt}, {Kind: math.MinInt}}, ""},
		{[]Step{{Kind: 99}, numbers(Cut), {Kind: 0}, numbers(Ship, 3), {Kind: 16}}, "cut\nship 3\n"},
		{[]Step{numbers(Ship), numbers(Ask), numbers(Read, 7), numbers(Disk)}, "ship 0\nask 0 0 0\nread 7 0\ndisk 0 0\n"},
		{[]Step{numbers(Cut, 1), numbers(Ship, 1, 2), numbers(Ask, 1, 2, 3, 4), {Kind: Tick, N: []int64{1}, Match: match("a=1"), Points: []head.Point{point("a=1", 1, 1)}}}, "cut\nship 1\nask 1 2 3\ntick 1\n"},
	} {
		if s := Format(c.l); s != c.want {
			t.Errorf("%v: %q, not %q", c.l, s, c.want)
		}
	}
	Format([]Step{{Kind: Append}, {Kind: Append, Points: []head.Point{{}}}, numbers(Crash, -1, math.MinInt64), {Kind: Ask, Match: []matcher.Matcher{{}, {Kind: 9}}}})
}

// isNumber: by the chapter's words.
func isNumber(s, most string) bool {
	if !regexp.MustCompile(`^(0|[1-9][0-9]*)$`).MatchString(s) {
		return false
	}
	v, _ := new(big.Int).SetString(s, 10)
	m, _ := new(big.Int).SetString(most, 10)
	return v.Cmp(m) <= 0
}

// areNumbers: all of them.
func areNumbers(l []string) bool {
	return !slices.ContainsFunc(l, func(s string) bool { return !isNumber(s, most) })
}

// isPoint: by the chapter's words; labels by their own Check, and by rising names.
func isPoint(s string) bool {
	m := regexp.MustCompile(`(?s)^([^ ;]+) ([^ ;]+) ([^ ;]+)$`).FindStringSubmatch(s)
	if m == nil || !isNumber(m[2], most) || !isNumber(m[3], full) {
		return false
	}
	var l label.Set
	for _, p := range strings.Split(m[1], ",") {
		at := strings.IndexByte(p, '=')
		if at < 0 {
			return false
		}
		l = append(l, label.Pair{Name: p[:at], Value: p[at+1:]})
	}
	return l.Check() == api.OK
}

// isLine: by the chapter's words.
func isLine(s string) bool {
	if rest, is := strings.CutPrefix(s, "append "); is {
		return !slices.ContainsFunc(strings.Split(rest, ";"), func(s string) bool { return !isPoint(s) })
	}
	words := strings.Split(s, " ")
	n := words[1:]
	switch words[0] {
	case "cut", "checkpoint", "recover":
		return len(n) == 0
	case "ship", "compact", "sweep", "update", "result", "tick":
		return len(n) == 1 && areNumbers(n)
	case "read", "disk", "bucket":
		return len(n) == 2 && areNumbers(n)
	case "crash":
		return areNumbers(n)
	case "ask":
		if len(n) == 4 && n[3] != "" {
			_, err := matcher.Parse(n[3])
			return err == api.OK && areNumbers(n[:3])
		}
		return len(n) == 3 && areNumbers(n)
	}
	return false
}

// isText: what Parse is to say of a text: how many steps, which line is the first one that is none.
func isText(s string) (int, int) {
	steps := 0
	for i, line := range strings.Split(s, "\n") {
		if line == "" || line[0] == '#' {
			continue
		}
		if !isLine(line) {
			return 0, i + 1
		}
		steps++
	}
	return steps, 0
}

// heldTo: is a text parsed by the chapter's words, and is there one spelling?
func heldTo(t *testing.T, text string) {
	t.Helper()
	steps, line := isText(text)
	l, n, err := Parse(text)
	if len(l) != steps || n != line || (err == api.OK) != (line == 0) || err != api.OK && (err != api.ErrForm || l != nil) {
		t.Fatalf("%q: %v, line %d, %d, not %d steps, line %d", text, l, n, err, steps, line)
	}
	if err != api.OK {
		return
	}
	var want []string
	for _, s := range strings.Split(text, "\n") {
		if s != "" && s[0] != '#' {
			want = append(want, s+"\n")
		}
	}
	back := Format(l)
	if back != strings.Join(want, "") {
		t.Fatalf("%q: back it is %q", text, back)
	}
	if again, n, err := Parse(back); n != 0 || err != api.OK || !same(l, again) {
		t.Fatalf("%q: %v, then %v, %d, %d", text, l, again, n, err)
	}
}

// P26.1, P1, K7: of all lines with one byte less, one more, or another one just those are parsed that are well formed, each to what is that text again.
func TestParseHurtLines(t *testing.T) {
	var lines []string
	for _, c := range spellings() {
		lines = append(lines, c.line)
	}
	bytes := []byte("\x00\n #01259=!^@|,;_-+axX\xff\r\t")
	for _, s := range append(lines, wrongs()...) {
		heldTo(t, s)
		for i := range len(s) + 1 {
			if i < len(s) {
				heldTo(t, s[:i]+s[i+1:])
			}
			for _, c := range bytes {
				heldTo(t, s[:i]+string([]byte{c})+s[i:])
				if i < len(s) {
					heldTo(t, s[:i]+string([]byte{c})+s[i+1:])
				}
			}
		}
	}
}

// P26.1: likewise texts of words and parts in any order.
func TestParseCastTexts(t *testing.T) {
	parts := []string{"append", "cut", "checkpoint", "ship", "compact", "sweep", "update", "ask", "read", "result", "tick", "crash", "recover", "disk", "bucket", "#"}
	parts = append(parts, " ", " ", " ", " ", " ", " ", " ", "\n", "\n", "\n", ";", "a=1", "b=2", "a=1,b=2", "a=1 1 1", "b=2 0 7", "0", "1", "12", most, above, full, "01", "x!=2", "y^1", "z@1|2")
	r := rand.New(rand.NewSource(1))
	good := 0
	for range 200000 {
		var b strings.Builder
		for range 1 + r.Intn(9) {
			b.WriteString(parts[r.Intn(len(parts))])
		}
		heldTo(t, b.String())
		if n, line := isText(b.String()); n > 0 && line == 0 {
			good++
		}
	}
	if good < 2000 {
		t.Errorf("%d are well formed", good)
	}
}

// castStep: any step that a line says.
func castStep(r *rand.Rand) Step {
	number := func() int64 {
		return []int64{int64(r.Intn(12)), r.Int63n(1<<40 + 1), 1 << 40, 0}[r.Intn(4)]
	}
	x := Step{Kind: 1 + r.Intn(15)}
	n := map[int]int{Ship: 1, Compact: 1, Sweep: 1, Update: 1, Ask: 3, Read: 2, Result: 1, Tick: 1, Disk: 2, Bucket: 2, Crash: r.Intn(5)}[x.Kind]
	for range n {
		x.N = append(x.N, number())
	}
	if x.Kind == Append {
		for range 1 + r.Intn(4) {
			labels := []string{"a=1", "a=1,b=2", "_=é,b=\"", "Z=9,z=#=", name40 + "=" + name40}[r.Intn(5)]
			x.Points = append(x.Points, point(labels, number(), r.Uint64()>>r.Intn(64)))
		}
	}
	if x.Kind == Ask {
		x.Match = match([]string{"", "a=1", "a!=,b^;,c@1||2", "é=é"}[r.Intn(4)])
	}
	return x
}

// P26.1: any steps that lines say, there and back.
func TestThereAndBack(t *testing.T) {
	r := rand.New(rand.NewSource(2))
	for range 3000 {
		var l []Step
		for range r.Intn(8) {
			l = append(l, castStep(r))
		}
		text := Format(l)
		parses(t, text, l...)
		if strings.Count(text, "\n") != len(l) {
			t.Errorf("%v: %q", l, text)
		}
	}
}

// K3, K4: what is answered is new each time; Format leaves its steps as they are.
func TestParseIsNew(t *testing.T) {
	const text = "append a=1 1 1;a=1 2 2\nask 1 0 9 a@1|2\nask 1 0 9 a@1|2\ncrash 1 2\ncrash 1 2\n"
	one, _, _ := Parse(text)
	two, _, _ := Parse(text)
	one[0].Points[0].Labels[0].Value = "9"
	one[1].Match[0].Values[0] = "9"
	one[3].N[0] = 9
	one[1].Match = append(one[1].Match, match("b=1")...)
	one[3].N = append(one[3].N, 8)
	if Format(two) != text {
		t.Errorf("%v", two)
	}
	if s := Format(one); s != "append a=9 1 1;a=1 2 2\nask 1 0 9 a@9|2,b=1\nask 1 0 9 a@1|2\ncrash 9 2 8\ncrash 1 2\n" {
		t.Errorf("%q", s)
	}
	if again, _, _ := Parse(text); !same(again, two) {
		t.Errorf("%v", again)
	}
}

// P1: long texts end soon.
func TestParseLongTexts(t *testing.T) {
	const many = 100000
	for _, c := range []struct {
		text        string
		steps, line int
	}{
		{strings.Repeat("cut\n", many), many, 0},
		{strings.Repeat("\n", many), 0, 0},
		{strings.Repeat("cut\n", many) + "x", 0, many + 1},
		{"append a=1 1 1" + strings.Repeat(";a=1 1 1", many), 1, 0},
		{"crash" + strings.Repeat(" 1", many), 1, 0},
		{"crash" + strings.Repeat(" 1", many) + " ", 0, 1},
		{"crash " + strings.Repeat("1", many), 0, 1},
		{"ask 1 1 1 a=1" + strings.Repeat(",a=1", many), 1, 0},
		{"ask" + strings.Repeat(" 1", many), 0, 1},
		{strings.Repeat(" ", many), 0, 1},
		{strings.Repeat("c", many), 0, 1},
		{"#" + strings.Repeat(" ", many), 0, 0},
	} {
		l, n, err := Parse(c.text)
		if len(l) != c.steps || n != c.line || (err == api.OK) != (c.line == 0) {
			t.Errorf("%.20q: %d steps, line %d, %d", c.text, len(l), n, err)
		}
		if s := Format(l); err == api.OK && s != strings.TrimLeft(strings.TrimRight(c.text, "\n")+"\n", "\n# ") {
			t.Errorf("%.20q: %.20q", c.text, s)
		}
	}
}

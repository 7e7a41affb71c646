package script

import (
	"strconv"
	"strings"

	"barograph/api"
	"barograph/head"
	"barograph/label"
	"barograph/matcher"
)

const (
	lineEnd   = "\n"
	remark    = "#" // what a line begins with that says nothing
	blank     = " " // between a line's word and all that it needs
	semicolon = ";" // between points, and between rows
	equals    = "=" // between a sample's time and its value
)

const (
	pointParts = 3  // labels, time, value
	anyMany    = -1 // of numbers: as many as there are
)

// form is a line's word, the kind of its step, and how many numbers stand behind the word.
type form struct {
	word    string
	kind    int
	numbers int
}

// forms is those of all lines. Behind the word of Append there are points instead, behind the numbers of Ask perhaps matchers.
var forms = [...]form{
	{"append", Append, 0},
	{"cut", Cut, 0},
	{"checkpoint", Checkpoint, 0},
	{"ship", Ship, 1},
	{"compact", Compact, 1},
	{"sweep", Sweep, 1},
	{"update", Update, 1},
	{"ask", Ask, 3},
	{"read", Read, 2},
	{"result", Result, 1},
	{"tick", Tick, 1},
	{"crash", Crash, anyMany},
	{"recover", Recover, 0},
	{"disk", Disk, 2},
	{"bucket", Bucket, 2},
}

// formOfWord: that of a line with this word; false: there is none.
func formOfWord(word string) (form, bool) {
	for _, f := range forms {
		if f.word == word {
			return f, true
		}
	}
	return form{}, false
}

// formOfKind: that of a step of this kind; false: there is none.
func formOfKind(kind int) (form, bool) {
	for _, f := range forms {
		if f.kind == kind {
			return f, true
		}
	}
	return form{}, false
}

// Parse: the steps of a text; else the first line that is none.
func Parse(text string) ([]Step, int, api.Errno) {
	var l []Step
	n := 0
	for line := range strings.SplitSeq(text, lineEnd) {
		n++
		if line == "" || strings.HasPrefix(line, remark) {
			continue
		}
		x, is := parseLine(line)
		if !is {
			return nil, n, api.ErrForm
		}
		l = append(l, x)
	}
	return l, 0, api.OK
}

// parseLine: the step of a line; false: it is none.
func parseLine(line string) (Step, bool) {
	word, rest, more := strings.Cut(line, blank)
	f, there := formOfWord(word)
	if !there {
		return Step{}, false
	}
	if f.kind == Append {
		return parseAppend(rest)
	}
	var parts []string
	if more {
		parts = strings.Split(rest, blank)
	}
	return f.parse(parts)
}

// parse: the step of what stands behind the word, but for Append.
func (f form) parse(parts []string) (Step, bool) {
	x := Step{Kind: f.kind}
	if f.kind == Ask && len(parts) > f.numbers {
		l, are := parseMatchers(parts[f.numbers:])
		if !are {
			return Step{}, false
		}
		x.Match, parts = l, parts[:f.numbers]
	}
	if f.numbers != anyMany && len(parts) != f.numbers {
		return Step{}, false
	}
	for _, s := range parts {
		v, is := parseNumber(s, api.MaxTime)
		if !is {
			return Step{}, false
		}
		x.N = append(x.N, int64(v))
	}
	return x, true
}

// parseNumber: a decimal of at most so much; false: it is none, or not the one spelling.
func parseNumber(s string, most uint64) (uint64, bool) {
	v, err := strconv.ParseUint(s, 10, 64)
	if err != nil || v > most || strconv.FormatUint(v, 10) != s {
		return 0, false
	}
	return v, true
}

// parseMatchers: those of what stands behind the numbers: one part, in which there are some.
func parseMatchers(parts []string) ([]matcher.Matcher, bool) {
	if len(parts) != 1 {
		return nil, false
	}
	l, err := matcher.Parse(parts[0])
	return l, err == api.OK && len(l) > 0
}

// parseAppend: the step of points.
func parseAppend(s string) (Step, bool) {
	x := Step{Kind: Append}
	for part := range strings.SplitSeq(s, semicolon) {
		p, is := parsePoint(part)
		if !is {
			return Step{}, false
		}
		x.Points = append(x.Points, p)
	}
	return x, true
}

// parsePoint: a point: labels by rising names, a time, a value.
func parsePoint(s string) (head.Point, bool) {
	parts := strings.Split(s, blank)
	if len(parts) != pointParts {
		return head.Point{}, false
	}
	labels, err := label.Parse(parts[0])
	if err != api.OK || labels.String() != parts[0] {
		return head.Point{}, false
	}
	t, isTime := parseNumber(parts[1], api.MaxTime)
	v, isValue := parseNumber(parts[2], 1<<64-1)
	if !isTime || !isValue {
		return head.Point{}, false
	}
	return head.Point{Labels: labels, S: api.Sample{T: int64(t), V: v}}, true
}

// Format: steps as a text.
func Format(l []Step) string {
	var b strings.Builder
	for _, x := range l {
		f, there := formOfKind(x.Kind)
		if !there {
			continue
		}
		b.WriteString(f.word)
		for _, part := range f.parts(x) {
			b.WriteString(blank)
			b.WriteString(part)
		}
		b.WriteString(lineEnd)
	}
	return b.String()
}

// parts: what stands behind the word.
func (f form) parts(x Step) []string {
	if f.kind == Append {
		return []string{pointsText(x.Points)}
	}
	var l []string
	for i := range f.count(x) {
		l = append(l, strconv.FormatInt(x.number(i), 10))
	}
	if f.kind == Ask && len(x.Match) > 0 {
		l = append(l, matcher.Format(x.Match))
	}
	return l
}

// count: how many numbers stand behind the word of a step, whichever it has.
func (f form) count(x Step) int {
	if f.numbers == anyMany {
		return len(x.N)
	}
	return f.numbers
}

// pointsText: points as a text.
func pointsText(l []head.Point) string {
	var b strings.Builder
	for i, p := range l {
		if i > 0 {
			b.WriteString(semicolon)
		}
		b.WriteString(p.Labels.String())
		b.WriteString(blank)
		b.WriteString(strconv.FormatInt(p.S.T, 10))
		b.WriteString(blank)
		b.WriteString(strconv.FormatUint(p.S.V, 10))
	}
	return b.String()
}

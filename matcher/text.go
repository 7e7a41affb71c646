package matcher

import (
	"strings"

	"barograph/api"
)

const (
	comma     = ","    // between matchers
	bar       = "|"    // between values
	signBytes = "=!^@" // what a sign begins with
)

// sign: what stands between the name and the value of a matcher of a kind; nothing: there is no such kind.
func sign(kind int) string {
	switch kind {
	case Is:
		return "="
	case IsNot:
		return "!="
	case Begins:
		return "^"
	case Among:
		return "@"
	}
	return ""
}

// String: a matcher as a text.
func (m Matcher) String() string {
	s := sign(m.Kind)
	if s == "" {
		return ""
	}
	return m.Name + s + strings.Join(m.Values, bar)
}

// Format: matchers as a text.
func Format(l []Matcher) string {
	parts := make([]string, len(l))
	for i, m := range l {
		parts[i] = m.String()
	}
	return strings.Join(parts, comma)
}

// Parse: the matchers of a text, with commas between; none of an empty one.
func Parse(s string) ([]Matcher, api.Errno) {
	if s == "" {
		return nil, api.OK
	}
	var l []Matcher
	for part := range strings.SplitSeq(s, comma) {
		m := parsePart(part)
		if m.Check() != api.OK {
			return nil, api.ErrForm
		}
		l = append(l, m)
	}
	return l, api.OK
}

// parsePart: the matcher of a text; one of no kind, if no sign is in it.
func parsePart(s string) Matcher {
	at := strings.IndexAny(s, signBytes)
	if at < 0 {
		return Matcher{}
	}
	for kind := Is; kind <= Among; kind++ {
		values, found := strings.CutPrefix(s[at:], sign(kind))
		if found {
			// Of each kind: where a bar may not be, two values may not be either.
			return Matcher{Kind: kind, Name: s[:at], Values: strings.Split(values, bar)}
		}
	}
	return Matcher{}
}

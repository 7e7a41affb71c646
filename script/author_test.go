package script

import (
	"fmt"
	"math"
	"math/rand"
	"strings"

	"barograph/engine"
	"barograph/head"
	"barograph/label"
	"barograph/matcher"
)

// author writes lines; what it writes follows from its seed alone.
type author struct {
	*rand.Rand
	times map[string]int64 // by series: the last one that was written
	value uint64           // of the last sample that was written: no two have the same
	top   int64
}

// newAuthor: of a seed.
func newAuthor(seed int) *author {
	return &author{Rand: rand.New(rand.NewSource(int64(seed))), times: map[string]int64{}}
}

// config: of much room; an upload's grace is over by the time its block may be deleted again.
func (a *author) config() engine.Config {
	delay := 1 + a.Intn(30)
	return engine.Config{
		Head:     head.Config{Series: 10, Samples: 500, Width: 10},
		Room:     1 << 20,
		Segment:  1 + a.Intn(500),
		Delay:    delay,
		Grace:    1 + a.Intn(delay+1),
		Patience: 1 + a.Intn(delay),
	}
}

// appendLine: some points of times that rise, now and then not.
func (a *author) appendLine() string {
	var l []string
	names := []string{"a=1", "a=1,b=1", "a=2", "b=1", "c=3"}
	for range 1 + a.Intn(4) {
		name := names[a.Intn(len(names))]
		at := max(a.times[name]+1, a.top-9) + int64(a.Intn(4))
		if a.Intn(25) == 0 {
			at = max(at-int64(a.Intn(15)), 0)
		}
		a.times[name], a.top = at, max(a.top, at)
		a.value++
		l = append(l, fmt.Sprintf("%s %d %d", name, at, a.value))
	}
	return "append " + strings.Join(l, ";")
}

// askLine: of whatever times and labels.
func (a *author) askLine() string {
	from := a.Int63n(a.top + 10)
	s := fmt.Sprintf("ask %d %d %d", a.Intn(4), from, from+a.Int63n(a.top+10))
	if m := []string{"", "", "a=1", "a!=1", "b^1", "a@1|2"}[a.Intn(6)]; m != "" {
		s += " " + m
	}
	return s
}

// line: one of all.
func (a *author) line() string {
	often := func(word string) string { return fmt.Sprint(word, " ", a.Intn([]int{4, 30}[a.Intn(2)])) }
	switch n := a.Intn(200); {
	case n < 25:
		return a.appendLine()
	case n < 45:
		return "cut"
	case n < 48:
		return "checkpoint"
	case n < 70:
		return often("ship")
	case n < 90:
		return often("compact")
	case n < 110:
		return often("sweep")
	case n < 130:
		return often("update")
	case n < 148:
		return a.askLine()
	case n < 168:
		return often(fmt.Sprint("read ", a.Intn(4)))
	case n < 180:
		return fmt.Sprint("result ", a.Intn(4))
	case n < 187:
		return fmt.Sprint("tick ", a.Intn(3))
	case n < 188:
		return fmt.Sprint("tick ", a.Intn(40))
	case n < 192:
		return fmt.Sprint("disk ", a.Intn(12), " ", a.Intn(2))
	case n < 196:
		return fmt.Sprint("bucket ", a.Intn(6), " ", a.Intn(2))
	case n < 198:
		return "crash" + []string{"", " 7", " 3 99", " 1099511627776 5 1"}[a.Intn(4)]
	}
	return "recover"
}

// oddNumber: any one, at the edges above all.
func (a *author) oddNumber() int64 {
	return []int64{0, 1, 2, 3, 9, int64(a.Intn(40)), -1, 1 << 40, 1<<40 - 1, math.MaxInt64, math.MinInt64, int64(a.Uint64())}[a.Intn(12)]
}

// oddText: any one, such as may not be labels' above all.
func (a *author) oddText() string {
	return []string{"", "a", "b", "1", "a=1", "=", ",", "a,b", " ", "é", "\xff", "\n", "|", name40, name40 + "x"}[a.Intn(15)]
}

// oddStep: one that mostly no line says.
func (a *author) oddStep() Step {
	x := Step{Kind: a.Intn(18) - 1}
	for range a.Intn(5) {
		x.N = append(x.N, a.oddNumber())
	}
	for range a.Intn(3) {
		p := head.Point{}
		for range a.Intn(4) {
			p.Labels = append(p.Labels, label.Pair{Name: a.oddText(), Value: a.oddText()})
		}
		p.S.T, p.S.V = a.oddNumber(), a.Uint64()
		x.Points = append(x.Points, p)
	}
	for range a.Intn(3) {
		m := matcher.Matcher{Kind: a.Intn(6), Name: a.oddText()}
		for range a.Intn(3) {
			m.Values = append(m.Values, a.oddText())
		}
		x.Match = append(x.Match, m)
	}
	return x
}

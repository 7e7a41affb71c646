package script

import (
	"fmt"
	"math"
	"reflect"
	"slices"
	"strings"
	"testing"

	"barograph/api"
	"barograph/head"
	"barograph/label"
	"barograph/matcher"
)

// answered: what a line of what is played says of a step's answer.
func answered(told string, err api.Errno) string {
	s := "ok"
	if err != 0 {
		s = fmt.Sprint("error ", int(err))
	}
	if told != "" {
		s += " " + told
	}
	return s + "\n"
}

// written: so many lines of an author.
func written(a *author, n int) string {
	var l []string
	for range n {
		l = append(l, a.line())
	}
	return strings.Join(l, "\n")
}

// P26.2: what is played is the steps, one behind the other: each is the call of another engine; and a line is told of each.
func TestPlay(t *testing.T) {
	for seed := range 20 {
		a := newAuthor(seed)
		cfg := a.config()
		l := steps(t, written(a, 400))
		mirrored(t, cfg, l)
		whole, one := world(t, cfg), world(t, cfg)
		said := whole.Play(l)
		want := ""
		for _, x := range l {
			want += answered(one.Do(x))
		}
		if said != want || state(whole.Engine()) != state(one.Engine()) {
			t.Fatalf("seed %d:\n%s, not\n%s", seed, said, want)
		}
		inParts, rest := world(t, cfg), l
		got := ""
		for len(rest) > 0 {
			n := a.Intn(len(rest) + 1)
			got += inParts.Play(rest[:n])
			rest = rest[n:]
		}
		if got != said || strings.Count(said, "\n") != len(l) {
			t.Fatalf("seed %d: %d lines of %d steps", seed, strings.Count(said, "\n"), len(l))
		}
	}
}

// Of no steps nothing is told, and nothing is done.
func TestPlayNothing(t *testing.T) {
	w := world(t, roomy())
	was := state(w.Engine())
	if w.Play(nil) != "" || w.Play([]Step{}) != "" || state(w.Engine()) != was {
		t.Errorf("%s", state(w.Engine()))
	}
}

// P1, P2, K1, K4, K7: steps that no line says, between those that lines say: they are their calls, too; none panics, each ends.
func TestAnySteps(t *testing.T) {
	for seed := range 60 {
		a := newAuthor(1000 + seed)
		cfg := a.config()
		var l []Step
		for range 300 {
			if a.Intn(2) == 0 {
				l = append(l, a.oddStep())
			} else {
				l = append(l, steps(t, a.line())...)
			}
		}
		mirrored(t, cfg, l)
		Format(l)
	}
}

// deep: the same steps, that share nothing with them.
func deep(l []Step) []Step {
	l = slices.Clone(l)
	for i, x := range l {
		x.N, x.Points, x.Match = slices.Clone(x.N), slices.Clone(x.Points), slices.Clone(x.Match)
		for i, p := range x.Points {
			x.Points[i].Labels = slices.Clone(p.Labels)
		}
		for i, m := range x.Match {
			x.Match[i].Values = slices.Clone(m.Values)
		}
		l[i] = x
	}
	return l
}

// spoil: all that steps share with others becomes something else.
func spoil(l []Step) {
	for _, x := range l {
		for i := range x.N {
			x.N[i] = 7
		}
		for i, p := range x.Points {
			for i := range p.Labels {
				p.Labels[i] = label.Pair{Name: "q", Value: "q"}
			}
			x.Points[i] = head.Point{S: api.Sample{T: 7, V: 7}}
		}
		for i, m := range x.Match {
			for i := range m.Values {
				m.Values[i] = "q"
			}
			x.Match[i] = matcher.Matcher{}
		}
	}
}

// K3, K4: steps are left as they are, and aren't kept: what becomes of them later plays no part.
func TestStepsAreNotKept(t *testing.T) {
	for seed := range 15 {
		a := newAuthor(2000 + seed)
		cfg := a.config()
		one, two := world(t, cfg), world(t, cfg)
		for range 300 {
			x := a.oddStep()
			if a.Intn(5) > 0 {
				x = steps(t, a.line())[0]
			}
			l := []Step{x}
			was := deep(l)
			said := one.Play(l)
			Format(l)
			if !reflect.DeepEqual(deep(l), was) {
				t.Fatalf("%v became %v", was, l)
			}
			spoil(l)
			if again := two.Play(was); again != said {
				t.Fatalf("%v: %q, not %q", was, said, again)
			}
		}
		if state(one.Engine()) != state(two.Engine()) {
			t.Fatalf("seed %d:\n%s, not\n%s", seed, state(one.Engine()), state(two.Engine()))
		}
	}
}

// K3: a query's ask isn't kept, nor the head's labels.
func TestAskIsNotKept(t *testing.T) {
	w := world(t, roomy())
	l := steps(t, "append a=1 1 1;b=1 2 2\nask 1 0 9 a=1\nask 2 0 9 b@1|2\n")
	is(t, "played", w.Play(l), "ok\nok\nok\n")
	spoil(l)
	plays(t, w, "read 1 9\nresult 1\nread 2 9\nresult 2\n", "error 17\nok a=1 1=1\nerror 17\nok b=1 2=2\n")
	asks(t, w, "ok a=1 1=1; b=1 2=2")
}

// P1: a step of the greatest numbers ends.
func TestGreatNumbers(t *testing.T) {
	w := world(t, roomy())
	plays(t, w, "append a=1 1 1;a=1 21 1\ncut\n", "ok\nok\n")
	for kind := 1; kind <= 15; kind++ {
		for _, n := range []int64{math.MaxInt64, math.MinInt64} {
			w.Do(numbers(kind, n, n, n))
			w.Do(numbers(kind, 0, n, n))
		}
	}
	w.Do(numbers(Crash))
	plays(t, w, "recover\nupdate 99\nupdate 99\n", "ok\nerror 17\nerror 17\n")
	asks(t, w, "ok a=1 1=1 21=1")
}

package bucket

import (
	"maps"
	"slices"
	"strings"
	"testing"

	"barograph/api"
	"barograph/disk"
)

// plain: a bucket as the chapter says it, in the plainest way: its things, and a fuse with the same faults.
type plain struct {
	fuse   *disk.Fuse
	things map[string]thing
}

func newPlain() *plain {
	return &plain{fuse: disk.NewFuse(), things: map[string]thing{}}
}

func (p *plain) put(name, data string, now int) api.Errno {
	if len(name) < 1 || len(name) > 40 {
		return api.ErrArg
	}
	works, done := p.fuse.Try()
	if done {
		p.things[name] = thing{name, data, now}
	}
	return p.verdict(works)
}

func (p *plain) drop(name string) api.Errno {
	works, done := p.fuse.Try()
	if done {
		delete(p.things, name)
	}
	return p.verdict(works)
}

func (p *plain) verdict(works bool) api.Errno {
	if works {
		return api.OK
	}
	return api.ErrIO
}

func (p *plain) part(name string, from, n int) (string, api.Errno) {
	x, there := p.things[name]
	works, _ := p.fuse.Try()
	switch {
	case !works:
		return "", api.ErrIO
	case !there:
		return "", api.ErrNone
	case from < 0 || from > len(x.data) || n < 0:
		return "", api.ErrArg
	}
	var b []byte
	for i := from; i < len(x.data) && len(b) < n; i++ {
		b = append(b, x.data[i])
	}
	return string(b), api.OK
}

func (p *plain) list(prefix string) ([]Info, api.Errno) {
	if works, _ := p.fuse.Try(); !works {
		return nil, api.ErrIO
	}
	var l []Info
	for _, x := range p.rising() {
		if strings.HasPrefix(x.name, prefix) {
			l = append(l, Info{x.name, len(x.data), x.at})
		}
	}
	return l, api.OK
}

func (p *plain) rising() []thing {
	var l []thing
	for _, name := range slices.Sorted(maps.Keys(p.things)) {
		l = append(l, p.things[name])
	}
	return l
}

// rolls: numbers that follow from where they begin, and from nothing else.
type rolls uint64

func (r *rolls) below(n int) int {
	*r = *r*6364136223846793005 + 1442695040888963407
	return int(uint64(*r)>>33) % n
}

// step: one call, of the bucket and of the plain one; do they end in the same way?
func step(t *testing.T, r *rolls, b *Bucket, p *plain) {
	t.Helper()
	names := []string{"a", "b", "a/1", "a/2", "ab", "", strings.Repeat("n", 40), strings.Repeat("n", 41)}
	name := names[r.below(len(names))]
	switch r.below(12) {
	case 0, 1, 2, 3:
		from, now := r.below(6), r.below(100)-20
		data := "0123456789"[from : from+r.below(5)]
		want(t, "Put", b.Put(name, data, now), p.put(name, data, now))
	case 4, 5:
		want(t, "Delete", b.Delete(name), p.drop(name))
	case 6:
		s, err := b.Get(name)
		wanted, wantedErr := p.part(name, 0, 99)
		gets(t, "Get", s, err, wanted, wantedErr)
	case 7, 8:
		from, n := r.below(8)-2, r.below(8)-2
		s, err := b.Range(name, from, n)
		wanted, wantedErr := p.part(name, from, n)
		gets(t, "Range", s, err, wanted, wantedErr)
	case 9:
		l, err := b.List(name)
		wanted, wantedErr := p.list(name)
		if !slices.Equal(l, wanted) || err != wantedErr {
			t.Errorf("List %q: %v, %d, not %v, %d", name, l, err, wanted, wantedErr)
		}
	case 10:
		for range r.below(5) {
			after, done := r.below(5)-1, r.below(2) == 0
			want(t, "Arm", b.Arm(after, done), p.fuse.Arm(after, done))
		}
	default:
		if r.below(4) == 0 {
			b.Clear()
			p.fuse.Clear()
		}
	}
}

// P5.1: each call, behind any calls, is as the chapter says.
func TestBehindAnyCalls(t *testing.T) {
	for seed := range 60 {
		r := rolls(seed)
		b, p := New(), newPlain()
		for i := range 400 {
			step(t, &r, b, p)
			holds(t, "behind any calls", b, p.rising()...)
			if t.Failed() {
				t.Fatalf("seed %d, step %d", seed, i)
			}
		}
	}
}

// P5.2: an object has at any time the bytes and the tick of one Put of its name, whatever fails between; and no other one's.
func TestWhole(t *testing.T) {
	names := []string{"a", "b", "c"}
	for seed := range 100 {
		r := rolls(seed)
		b := New()
		put := map[thing]int{}
		for i := range 60 {
			b.Arm(r.below(3), r.below(2) == 0)
			name := names[r.below(len(names))]
			// No two Puts hand in the same bytes: what is mixed of two shows.
			x := thing{name, strings.Repeat(name, r.below(4)) + strings.Repeat("x", i), i}
			put[x] = i
			b.Put(x.name, x.data, x.at)
			if r.below(4) == 0 {
				b.Delete(names[r.below(len(names))])
			}
			for _, info := range b.Look("") {
				data, _ := b.Peek(info.Name)
				if _, was := put[thing{info.Name, data, info.At}]; !was || info.Size != len(data) {
					t.Fatalf("seed %d, step %d: %v is %q", seed, i, info, data)
				}
			}
		}
	}
}

// K4: the same calls are answered in the same way.
func TestSameAgain(t *testing.T) {
	var first []thing
	for range 5 {
		r := rolls(7)
		b, p := New(), newPlain()
		var answers []thing
		for range 300 {
			step(t, &r, b, p)
			for _, info := range b.Look("") {
				data, _ := b.Peek(info.Name)
				answers = append(answers, thing{info.Name, data, info.At})
			}
		}
		if first == nil {
			first = answers
		}
		if !slices.Equal(first, answers) {
			t.Fatal("another answer")
		}
	}
}

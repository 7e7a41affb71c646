package disk

import (
	"maps"
	"slices"
	"strings"
	"testing"

	"barograph/api"
)

// plain: a disk as the chapter says it, in the plainest way: of each file what is there for sure, and what isn't.
type plain struct {
	room        int
	sure, loose map[string]string
	waiting     []fault
	armed       []fault
}

func newPlain(room int) *plain {
	return &plain{room: max(room, 0), sure: map[string]string{}, loose: map[string]string{}}
}

func (p *plain) used() int {
	n := 0
	for name := range p.sure {
		n += len(p.sure[name] + p.loose[name])
	}
	return n
}

func (p *plain) names() []string {
	return slices.Sorted(maps.Keys(p.sure))
}

// do: a call that has no error of its own.
func (p *plain) do(act func()) api.Errno {
	if len(p.armed) == 0 && len(p.waiting) > 0 {
		p.armed, p.waiting = p.waiting[:1:1], p.waiting[1:]
	}
	if len(p.armed) == 0 {
		act()
		return api.OK
	}
	if p.armed[0].after > 0 {
		p.armed = []fault{{p.armed[0].after - 1, p.armed[0].done}}
		act()
		return api.OK
	}
	if p.armed[0].done {
		act()
	}
	p.armed = nil
	return api.ErrIO
}

func (p *plain) has(name string) bool {
	_, there := p.sure[name]
	return there
}

func (p *plain) set(name, sure, loose string) {
	p.sure[name], p.loose[name] = sure, loose
}

func (p *plain) drop(name string) {
	delete(p.sure, name)
	delete(p.loose, name)
}

func (p *plain) append(name, s string) api.Errno {
	if len(name) < 1 || len(name) > 40 {
		return api.ErrArg
	}
	if p.used()+len(s) > p.room {
		return api.ErrFull
	}
	return p.do(func() { p.set(name, p.sure[name], p.loose[name]+s) })
}

func (p *plain) sync(name string) api.Errno {
	if !p.has(name) {
		return api.ErrNone
	}
	return p.do(func() { p.set(name, p.sure[name]+p.loose[name], "") })
}

func (p *plain) truncate(name string, n int) api.Errno {
	if !p.has(name) {
		return api.ErrNone
	}
	all := p.sure[name] + p.loose[name]
	if n < 0 || n > len(all) {
		return api.ErrArg
	}
	return p.do(func() { p.set(name, all[:n], "") })
}

func (p *plain) rename(old, name string) api.Errno {
	if !p.has(old) {
		return api.ErrNone
	}
	if len(name) < 1 || len(name) > 40 {
		return api.ErrArg
	}
	return p.do(func() {
		if old != name {
			p.set(name, p.sure[old], p.loose[old])
			p.drop(old)
		}
	})
}

func (p *plain) remove(name string) api.Errno {
	if !p.has(name) {
		return api.ErrNone
	}
	return p.do(func() { p.drop(name) })
}

func (p *plain) arm(after int, done bool) api.Errno {
	if len(p.waiting) == MaxFuses {
		return api.ErrFull
	}
	p.waiting = append(slices.Clone(p.waiting), fault{max(after, 0), done})
	return api.OK
}

func (p *plain) crash(choice []int) {
	p.waiting, p.armed = nil, nil
	for _, name := range p.names() {
		if p.loose[name] == "" {
			continue
		}
		stay := 0
		if len(choice) > 0 {
			stay = choice[0]
			choice = choice[1:]
		}
		all := len(p.loose[name]) + 1
		for stay < 0 {
			stay += all
		}
		p.set(name, p.sure[name]+p.loose[name][:stay%all], "")
	}
}

// rolls: numbers that follow from where they begin, and from nothing else.
type rolls uint64

func (r *rolls) below(n int) int {
	*r = *r*6364136223846793005 + 1442695040888963407
	return int(uint64(*r)>>33) % n
}

// step: one call, of the disk and of the plain one; do they end in the same way?
func step(t *testing.T, r *rolls, d *Disk, p *plain) {
	t.Helper()
	names := []string{"a", "b", "c", "ab", "d", "", strings.Repeat("n", 40), strings.Repeat("n", 41)}
	name, other := names[r.below(len(names))], names[r.below(len(names))]
	switch r.below(16) {
	case 0, 1, 2, 3, 4:
		s := "0123456789"[:r.below(11)]
		want(t, "Append", d.Append(name, s), p.append(name, s))
	case 5, 6:
		want(t, "Sync", d.Sync(name), p.sync(name))
	case 7, 8:
		n := r.below(14) - 2
		want(t, "Truncate", d.Truncate(name, n), p.truncate(name, n))
	case 9, 10:
		want(t, "Rename", d.Rename(name, other), p.rename(name, other))
	case 11:
		want(t, "Remove", d.Remove(name), p.remove(name))
	case 12, 13:
		for range r.below(5) {
			after, done := r.below(5)-1, r.below(2) == 0
			want(t, "Arm", d.Arm(after, done), p.arm(after, done))
		}
	case 14:
		if r.below(4) == 0 {
			d.Clear()
			p.waiting, p.armed = nil, nil
		}
	default:
		var choice []int
		for range r.below(4) {
			choice = append(choice, r.below(40)-20)
		}
		d.Crash(choice...)
		p.crash(choice)
	}
}

// P4.1, P4.3: each call, behind any calls, is as the chapter says; no more is used than there is room.
func TestBehindAnyCalls(t *testing.T) {
	for seed := range 60 {
		r := rolls(seed)
		room := r.below(60) - 5
		d, p := New(room), newPlain(room)
		for i := range 400 {
			step(t, &r, d, p)
			var files []string
			for _, name := range p.names() {
				files = append(files, name, p.sure[name]+p.loose[name])
			}
			holds(t, "behind any calls", d, files...)
			if d.Used() > p.room || d.Free() != p.room-p.used() {
				t.Errorf("%d used, %d free of %d", d.Used(), d.Free(), p.room)
			}
			if t.Failed() {
				t.Fatalf("seed %d, step %d", seed, i)
			}
		}
	}
}

// P4.2: what was synced is there behind a crash, whatever goes on and fails between.
func TestSyncedIsThere(t *testing.T) {
	for seed := range 200 {
		r := rolls(seed)
		d := New(1000)
		sure, all := "", ""
		for range 30 {
			d.Arm(r.below(4), r.below(2) == 0)
			s := "0123456789"[:r.below(11)]
			d.Append("a", s)
			all, _ = d.Read("a")
			if d.Sync("a") == api.OK {
				sure = all
			}
			d.Append("b", s)
			if r.below(5) > 0 {
				continue
			}
			d.Crash(r.below(12), r.below(12))
			got, _ := d.Read("a")
			if !strings.HasPrefix(got, sure) || !strings.HasPrefix(all, got) {
				t.Fatalf("seed %d: %q, not from %q to %q", seed, got, sure, all)
			}
			sure = got
		}
	}
}

// K4: the same calls are answered in the same way.
func TestSameAgain(t *testing.T) {
	var first []string
	for range 5 {
		r := rolls(7)
		d, p := New(50), newPlain(50)
		var answers []string
		for range 300 {
			step(t, &r, d, p)
			for _, name := range d.List("") {
				s, _ := d.Read(name)
				answers = append(answers, name, s)
			}
		}
		if first == nil {
			first = answers
		}
		if !slices.Equal(first, answers) {
			t.Fatal("another answer")
		}
	}
}

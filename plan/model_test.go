package plan

import (
	"slices"
	"testing"

	"barograph/listing"
	"barograph/meta"
)

// rolls: numbers that follow from where they begin, and from nothing else.
type rolls uint64

func (r *rolls) below(n int) int {
	*r = *r*6364136223846793005 + 1442695040888963407
	return int(uint64(*r)>>33) % n
}

// amount: mostly a small part of a limit, now and then much of it, or more.
func (r *rolls) amount(most int) int {
	switch r.below(12) {
	case 0:
		return r.below(most + most/8)
	case 1:
		return most / (1 + r.below(4))
	}
	return r.below(1 + most/16)
}

// castBlock: the n-th block, of times below 400, mostly in few of them.
func (r *rolls) castBlock(n, numbers int) meta.Meta {
	from := int64(r.below(400))
	to := from + 1 + int64(r.below(1+[]int{9, 9, 40, 200}[r.below(4)]))
	m := level(small(n, from, to), 1+r.below(9))
	m = size(m, r.amount(Most), r.amount(Most)/8)
	series := r.amount(Series)
	m = count(m, series, series+r.amount(Samples))
	for x := range numbers {
		if x != n && r.below(20*numbers) == 0 {
			m.Sources = append(m.Sources, id(x))
		}
	}
	return m
}

// castListing: up to 60 blocks, of which some are sources of others, and some are marked.
func (r *rolls) castListing(t *testing.T) listing.Listing {
	t.Helper()
	numbers := 1 + r.below(60)
	var l []meta.Meta
	var marks []int
	often := 1 + r.below(20)
	for n := range numbers {
		if r.below(10) == 0 {
			continue
		}
		l = append(l, r.castBlock(n, numbers))
		if r.below(often) == 0 && r.below(3) == 0 {
			marks = append(marks, n)
		}
	}
	return marked(t, marks, l...)
}

// isFree: is a block free, by the chapter's words?
func isFree(l listing.Listing, m meta.Meta) bool {
	_, marked := l.Marks[m.ID]
	return !marked && !slices.ContainsFunc(l.Metas, func(x meta.Meta) bool { return x.Lists(m.ID) })
}

// plainFree: the free blocks, by Min, then by names.
func plainFree(l listing.Listing) []meta.Meta {
	var free []meta.Meta
	for _, m := range l.Metas {
		if !isFree(l, m) {
			continue
		}
		// Those that are there already have lesser names.
		at := len(free)
		for at > 0 && free[at-1].Min > m.Min {
			at--
		}
		free = slices.Insert(free, at, m)
	}
	return free
}

// rangeOf: the range, of a width, in which a time is.
func rangeOf(at, width int64) (int64, int64) {
	from := int64(0)
	for from+width <= at {
		from += width
	}
	return from, from + width
}

// together: may blocks be made one?
func together(l []meta.Meta) bool {
	bytes, series, samples := 0, 0, 0
	for _, m := range l {
		bytes += m.Files[0].Size + m.Files[1].Size
		series += m.Series
		samples += m.Samples
	}
	return len(l) <= 20 && bytes <= 1<<18 && series <= 10000 && samples <= 40000
}

// plainGroup: of the group of a free block, ahead of some others, as many as may be made one.
func plainGroup(free []meta.Meta, width int64) []meta.Meta {
	from, to := rangeOf(free[0].Min, width)
	var group []meta.Meta
	for _, m := range free {
		if x, _ := rangeOf(m.Min, width); x == from && m.Max <= to {
			group = append(group, m)
		}
	}
	for !together(group) {
		group = group[:len(group)-1]
	}
	return group
}

// plainNext: the plan, by the chapter's words.
func plainNext(l listing.Listing, width int64) (Plan, bool) {
	free := plainFree(l)
	for _, wide := range []int64{3 * width, 9 * width} {
		for i := range free {
			group := plainGroup(free[i:], wide)
			if len(group) < 2 {
				continue
			}
			p := Plan{From: group[0].Min, To: group[0].Max, Level: 1, Metas: group}
			for _, m := range group {
				p.From = min(p.From, m.Min)
				p.To = max(p.To, m.Max)
				p.Level = max(p.Level, min(m.Level+1, 9))
			}
			return p, true
		}
	}
	return Plan{}, false
}

// plainToMark: what is to be marked, by the chapter's words.
func plainToMark(l listing.Listing) []string {
	var names []string
	for _, m := range l.Metas {
		_, marked := l.Marks[m.ID]
		wanted := slices.ContainsFunc(l.Metas, func(x meta.Meta) bool {
			_, isMarked := l.Marks[x.ID]
			return !isMarked && x.Lists(m.ID)
		})
		if !marked && wanted {
			names = append(names, m.ID)
		}
	}
	return names
}

// lies: does a plan lie in one range, three or nine times as wide as a width?
func lies(p Plan, width int64) bool {
	for _, wide := range []int64{3 * width, 9 * width} {
		from, to := rangeOf(p.From, wide)
		if from <= p.From && p.To <= to {
			return true
		}
	}
	return false
}

// P20.1, P20.2: Next and ToMark are what the chapter's words say; a plan's blocks are live, and aren't marked, and lie in one range.
func TestPlainly(t *testing.T) {
	plans := 0
	for seed := range 3000 {
		r := rolls(seed)
		l := r.castListing(t)
		for _, width := range []int64{1, 2, 5, 10, 30, 100} {
			p, there := Next(l, width)
			want, is := plainNext(l, width)
			if there != is || !same(p, want) {
				t.Fatalf("seed %d, width %d: %+v, %v, not %+v, %v", seed, width, p, there, want, is)
			}
			if !there {
				continue
			}
			plans++
			if len(p.Metas) < 2 || !lies(p, width) || !together(p.Metas) {
				t.Fatalf("seed %d, width %d: %+v", seed, width, p)
			}
			for _, m := range p.Metas {
				if !isFree(l, m) {
					t.Fatalf("seed %d, width %d: %q isn't free", seed, width, m.ID)
				}
			}
		}
		if got, want := ToMark(l), plainToMark(l); !slices.Equal(got, want) {
			t.Fatalf("seed %d: to be marked: %q, not %q", seed, got, want)
		}
		if got, want := Rank(l), max(len(plainFree(l))-1, 0); got != want {
			t.Fatalf("seed %d: Rank: %d, not %d", seed, got, want)
		}
	}
	if plans < 3000 {
		t.Errorf("only %d plans", plans)
	}
}

// made: the block that is made of a plan's.
func (r *rolls) made(p Plan, n int) meta.Meta {
	m := level(small(n, p.From, p.To, p.Names()...), p.Level)
	m.Series, m.Samples = 0, 0
	for _, x := range p.Metas {
		m.Series += r.below(1 + x.Series)
		m.Samples += x.Samples
	}
	return size(m, r.amount(Most), r.amount(Most)/8)
}

// P20.3: plan behind plan: with the block that is made the Rank is less each time; so there is none in the end, whether what is to be marked is marked, or gone, or not.
func TestPlansEnd(t *testing.T) {
	for seed := range 600 {
		r := rolls(seed)
		l := r.castListing(t)
		width := int64(1 + r.below(50))
		rank := Rank(l)
		for n, left := 100, rank; ; n++ {
			p, there := Next(l, width)
			if !there {
				break
			}
			if left == 0 {
				t.Fatalf("seed %d: one more than %d", seed, rank)
			}
			l = listing.New(9, append(l.Metas, r.made(p, n)), l.Marks)
			if now := Rank(l); now >= left {
				t.Fatalf("seed %d: Rank %d, then %d", seed, left, now)
			}
			r.mark(t, &l, p)
			left = Rank(l)
		}
	}
}

// mark: of what is to be marked, which a plan's blocks are, all is marked, or some, or it is gone.
func (r *rolls) mark(t *testing.T, l *listing.Listing, p Plan) {
	t.Helper()
	names := ToMark(*l)
	for _, name := range p.Names() {
		if !slices.Contains(names, name) {
			t.Errorf("%q isn't to be marked", name)
		}
	}
	how := r.below(4)
	for _, name := range names {
		if how == 0 || how == 1 && r.below(2) == 0 {
			l.Marks[name] = r.below(9)
		}
	}
	if left := ToMark(*l); how == 0 && len(left) > 0 {
		t.Errorf("%q are to be marked yet", left)
	}
	if how == 2 {
		l.Metas = slices.DeleteFunc(l.Metas, func(m meta.Meta) bool { return slices.Contains(p.Names(), m.ID) })
	}
}

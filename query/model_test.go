package query

import (
	"slices"
	"testing"

	"barograph/api"
	"barograph/block"
	"barograph/bucket"
	"barograph/label"
	"barograph/listing"
	"barograph/matcher"
	"barograph/merge"
	"barograph/meta"
	"barograph/ship"
)

// rolls: numbers that follow from where they begin, and from nothing else.
type rolls uint64

func (r *rolls) below(n int) int {
	*r = *r*6364136223846793005 + 1442695040888963407
	return int(uint64(*r)>>33) % n
}

// castTable: some labels, each with some times; of one time several tables needn't say the same.
func (r *rolls) castTable(from, to int) []merge.Row {
	var l []merge.Row
	for _, name := range []string{"a=1", "a=1,b=1", "a=2", "b=1"} {
		x := merge.Row{Labels: set(name)}
		for at := from + r.below(12); at < to; at += 1 + r.below(6) {
			x.Samples = append(x.Samples, api.Sample{T: int64(at), V: uint64(r.below(1000))})
		}
		if len(x.Samples) > 0 {
			l = append(l, x)
		}
	}
	return l
}

// trial: a bucket with an index, and what a query of it is handed.
type trial struct {
	rolls
	bucket *bucket.Bucket
	blocks []block.Files
	at     int // of the index
	listed []meta.Meta
	sent   []ship.Sent
	tables [][]merge.Row
	ask    Ask
	delay  int
}

func newTrial(t *testing.T, seed int) *trial {
	t.Helper()
	x := &trial{rolls: rolls(seed), bucket: bucket.New()}
	for n := range x.below(7) {
		from := 10 * x.below(4)
		to := from + 10*(1+x.below(3))
		var sources []string
		for _, f := range x.blocks {
			if x.below(6) == 0 {
				sources = append(sources, f.Meta.ID)
			}
		}
		x.blocks = append(x.blocks, built(t, n, int64(from), int64(to), sources, x.castTable(from, to)...))
	}
	put(x.bucket, x.blocks...)
	x.castIndex()
	for range x.below(3) {
		x.tables = append(x.tables, x.castTable(x.below(30), 30+x.below(30)))
	}
	texts := []string{"", "", "", "a=1", "a!=1", "a^1,b=", "a@1|2", "b=", "c=1"}
	from := x.below(40) - 5
	x.ask = asks(int64(from), int64(from+x.below(50)-3), texts[x.below(len(texts))])
	x.delay = x.below(6)
	return x
}

// castIndex: the bucket has an index of some of its blocks, or none; some were sent, in whatever order.
func (x *trial) castIndex() {
	known := x.below(4) > 0
	if known {
		x.at = x.below(9)
	}
	for _, f := range x.blocks {
		if known && x.below(2) == 0 {
			x.listed = append(x.listed, f.Meta)
		}
		if x.below(2) == 0 {
			x.sent = slices.Insert(x.sent, x.below(len(x.sent)+1), ship.Sent{Meta: f.Meta, At: x.below(12)})
		}
	}
	if known {
		x.bucket.Put(listing.Name, listing.Encode(listing.New(x.at, x.listed, nil)), x.at)
	}
}

// live: is a block listed, and no source of a listed one?
func (x *trial) live(name string) bool {
	is := false
	for _, m := range x.listed {
		if slices.Contains(m.Sources, name) {
			return false
		}
		is = is || m.ID == name
	}
	return is
}

// read: which blocks are to be read, in their order.
func (x *trial) read() []block.Files {
	var l []block.Files
	of := func(m meta.Meta) {
		for _, f := range x.blocks {
			if f.Meta.ID == m.ID && m.Min < x.ask.To && x.ask.From < m.Max {
				l = append(l, f)
			}
		}
	}
	for _, m := range x.listed {
		if x.live(m.ID) {
			of(m)
		}
	}
	for _, s := range x.sent {
		if s.At >= x.at && !slices.ContainsFunc(x.listed, func(m meta.Meta) bool { return m.ID == s.Meta.ID }) {
			of(s.Meta)
		}
	}
	return l
}

// wanted: what is asked for of tables, the first one that says something of a time first.
func (x *trial) wanted(tables ...[]merge.Row) []merge.Row {
	type point struct {
		labels string
		at     int64
	}
	seen := map[point]int{}
	var rows []merge.Row
	for _, table := range tables {
		for _, r := range table {
			for _, s := range r.Samples {
				p := point{r.Labels.Key(), s.T}
				seen[p]++
				if seen[p] == 1 && x.ask.From <= s.T && s.T < x.ask.To && matcher.Match(r.Labels, x.ask.Match...) {
					rows = append(rows, merge.Row{Labels: r.Labels, Samples: []api.Sample{s}})
				}
			}
		}
	}
	slices.SortFunc(rows, func(a, b merge.Row) int {
		if c := label.Compare(a.Labels, b.Labels); c != 0 {
			return c
		}
		return int(a.Samples[0].T - b.Samples[0].T)
	})
	var joined []merge.Row
	for _, r := range rows {
		if n := len(joined); n > 0 && label.Compare(joined[n-1].Labels, r.Labels) == 0 {
			joined[n-1].Samples = append(joined[n-1].Samples, r.Samples...)
		} else {
			joined = append(joined, r)
		}
	}
	return joined
}

// calls: how many calls it takes: the index, and of each block its index, and its rows that lie around these times.
func (x *trial) calls(blocks []block.Files) int {
	n := 1
	for _, f := range blocks {
		n++
		table, _ := f.Table()
		for _, r := range table {
			if matcher.Match(r.Labels, x.ask.Match...) && r.Samples[0].T < x.ask.To && x.ask.From <= r.Samples[len(r.Samples)-1].T {
				n++
			}
		}
	}
	return n
}

// P23.1, P23.2, P23.3: whatever calls fail between: each Step ends as it should, and so does the query; with a tick that is too late it ends with ErrStale.
func TestModel(t *testing.T) {
	good, late, most := 0, 0, 0
	for seed := range 3000 {
		x := newTrial(t, seed)
		blocks := x.read()
		tables := slices.Clone(x.tables)
		for _, f := range blocks {
			table, _ := f.Table()
			tables = append(tables, table)
		}
		q := New(x.ask, x.delay, x.sent, x.tables...)
		at := -1
		for left := x.calls(blocks); left > 0; {
			busy(t, "on its way", q, at)
			now := x.at + x.below(x.delay+1)
			if x.below(40) == 0 {
				now = x.at + x.delay + 1 + x.below(3)
			}
			fault := x.below(3) == 0
			if fault {
				x.bucket.Arm(0, x.below(2) == 0)
			}
			want, called := api.OK, true
			switch {
			case at >= 0 && now > x.at+x.delay:
				want, called = api.ErrStale, false
			case fault:
				want = api.ErrIO
			case now > x.at+x.delay:
				want, at = api.ErrStale, x.at
			default:
				at = x.at
				left--
			}
			steps(t, "a Step", q, x.bucket, now, want)
			if works, _ := x.bucket.Try(); works == (fault && !called) {
				t.Errorf("a fault that waits: %v, a call: %v", fault, called)
			}
			if want == api.ErrStale {
				break
			}
		}
		if _, err := q.Result(); err == api.OK {
			has(t, "at its end", q, x.at, x.wanted(tables...)...)
			good++
			most = max(most, len(blocks))
		} else {
			failed(t, "too late", q, x.at, api.ErrStale)
			late++
		}
		if t.Failed() {
			t.Fatalf("seed %d", seed)
		}
	}
	if good < 1500 || late < 300 || most < 5 {
		t.Errorf("%d good, %d late, at most %d blocks", good, late, most)
	}
}

// K4: the same calls are answered in the same way.
func TestSame(t *testing.T) {
	for seed := range 100 {
		var told [][]merge.Row
		for range 3 {
			x := newTrial(t, seed)
			q := New(x.ask, x.delay, x.sent, x.tables...)
			ended(t, q, x.bucket, x.at)
			l, _ := q.Result()
			told = append(told, l)
		}
		if !equal(told[0], told[1]) || !equal(told[0], told[2]) {
			t.Errorf("seed %d: %v", seed, told)
		}
	}
}

package merge

import (
	"maps"
	"slices"
	"strconv"
	"testing"

	"barograph/api"
)

// rolls: numbers that follow from where they begin, and from nothing else.
type rolls uint64

func (r *rolls) below(n int) int {
	*r = *r*6364136223846793005 + 1442695040888963407
	return int(uint64(*r)>>33) % n
}

// names: labels, rising.
var names = []string{"_=1", "a=1", "a=1,b=1", "a=1,b=2", "a=2", "b=1"}

// castTable: some labels with some times; the values are as value says.
func (r *rolls) castTable(value func(name, at int) uint64) []Row {
	var l []Row
	for i, name := range names {
		if r.below(2) == 0 {
			continue
		}
		x := Row{Labels: set(name)}
		for at := range 12 {
			if r.below(3) == 0 {
				x.Samples = append(x.Samples, api.Sample{T: int64(at), V: value(i, at)})
			}
		}
		l = append(l, x)
	}
	return l
}

// agreed: a value that hangs on labels and time alone.
func agreed(name, at int) uint64 {
	return uint64(100*name + at)
}

// plain: tables in one, in the plainest way.
func plain(l ...[]Row) []Row {
	found := map[string]map[int64]uint64{}
	for _, table := range l {
		for _, r := range table {
			name := r.Labels.String()
			if found[name] == nil {
				found[name] = map[int64]uint64{}
			}
			for _, s := range r.Samples {
				if _, there := found[name][s.T]; !there {
					found[name][s.T] = s.V
				}
			}
		}
	}
	var table []Row
	for _, name := range names {
		if found[name] == nil {
			continue
		}
		r := Row{Labels: set(name)}
		for _, at := range slices.Sorted(maps.Keys(found[name])) {
			r.Samples = append(r.Samples, api.Sample{T: at, V: found[name][at]})
		}
		table = append(table, r)
	}
	return table
}

// P14.1: Tables is what the plain way says, and a table; Samples of one row's, too.
func TestTablesArePlain(t *testing.T) {
	for seed := range 300 {
		r := rolls(seed)
		var l [][]Row
		for range r.below(6) {
			l = append(l, r.castTable(func(int, int) uint64 { return uint64(r.below(1000)) }))
		}
		got := Tables(l...)
		same(t, "Tables", got, plain(l...))
		if !Good(got) {
			t.Errorf("no table: %v", got)
		}
		for _, x := range got {
			var lists [][]api.Sample
			for _, table := range l {
				for _, y := range table {
					if slices.Equal(x.Labels, y.Labels) {
						lists = append(lists, y.Samples)
					}
				}
			}
			list(t, "Samples", Samples(lists...), x.Samples...)
		}
		if t.Failed() {
			t.Fatalf("seed %d", seed)
		}
	}
}

// P14.2: of one table that; of several that agree the same, in any order, and two by two.
func TestTablesInAnyOrder(t *testing.T) {
	for seed := range 300 {
		r := rolls(seed)
		a, b, c := r.castTable(agreed), r.castTable(agreed), r.castTable(agreed)
		same(t, "of one", Tables(a), a)
		want := Tables(a, b, c)
		for _, l := range [][][]Row{{a, c, b}, {b, a, c}, {b, c, a}, {c, a, b}, {c, b, a}, {a, Tables(b, c)}, {Tables(a, b), c}, {Tables(c, a), b, want}} {
			same(t, "of several", Tables(l...), want)
		}
		if t.Failed() {
			t.Fatalf("seed %d", seed)
		}
	}
}

// P14.3: what is between two times, and between that and a third one, is what is between the first and the third one.
func TestBetweenParts(t *testing.T) {
	for seed := range 300 {
		r := rolls(seed)
		l := r.castTable(agreed)
		cuts := []int64{int64(r.below(16) - 2), int64(r.below(16) - 2), int64(r.below(16) - 2)}
		slices.Sort(cuts)
		low, high, whole := Between(l, cuts[0], cuts[1]), Between(l, cuts[1], cuts[2]), Between(l, cuts[0], cuts[2])
		same(t, "together", Tables(low, high), whole)
		same(t, "the other way", Tables(high, low), whole)
		if Count(low)+Count(high) != Count(whole) || !Good(whole) {
			t.Errorf("%d and %d, not %d", Count(low), Count(high), Count(whole))
		}
		for _, x := range whole {
			for _, s := range x.Samples {
				if s.T < cuts[0] || s.T >= cuts[2] {
					t.Errorf("%d isn't between %d and %d", s.T, cuts[0], cuts[2])
				}
			}
		}
		if t.Failed() {
			t.Fatalf("seed %d: %v", seed, cuts)
		}
	}
}

// P1: many tables of many rows, and many lists of many samples, end soon.
func TestMany(t *testing.T) {
	const many, rows = 200, 500
	var tables [][]Row
	var lists [][]api.Sample
	for i := range many {
		var table []Row
		for n := range rows {
			table = append(table, row("n="+strconv.Itoa(10000+n), int64(i), int64(i+1)))
		}
		tables = append(tables, table)
		var l []api.Sample
		for n := range 2 * rows {
			l = append(l, api.Sample{T: int64(n*many + i), V: uint64(i)})
		}
		lists = append(lists, l)
	}
	got := Tables(tables...)
	if len(got) != rows || Count(got) != rows*(many+1) || !Good(got) {
		t.Errorf("%d rows, %d samples", len(got), Count(got))
	}
	for i, s := range Samples(lists...) {
		if s != (api.Sample{T: int64(i), V: uint64(i % many)}) {
			t.Fatalf("%d: %v", i, s)
		}
	}
}

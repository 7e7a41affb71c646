package merge

import (
	"math"
	"slices"
	"testing"

	"barograph/api"
	"barograph/label"
)

// set: the labels of a text; none of an empty one.
func set(s string) label.Set {
	l, _ := label.Parse(s)
	return l
}

// row: labels, and samples whose values are their times.
func row(s string, times ...int64) Row {
	r := Row{Labels: set(s)}
	for _, at := range times {
		r.Samples = append(r.Samples, api.Sample{T: at, V: uint64(at)})
	}
	return r
}

// says: the same row with samples of another value.
func says(r Row, v uint64) Row {
	l := slices.Clone(r.Samples)
	for i := range l {
		l[i].V = v
	}
	return Row{Labels: r.Labels, Samples: l}
}

// equal: have two tables the same rows? Lists that are nil and empty ones are the same.
func equal(a, b []Row) bool {
	return slices.EqualFunc(a, b, func(x, y Row) bool {
		return slices.Equal(x.Labels, y.Labels) && slices.Equal(x.Samples, y.Samples)
	})
}

// same: is a table as wanted?
func same(t *testing.T, what string, got, want []Row) {
	t.Helper()
	if !equal(got, want) {
		t.Errorf("%s: %v, not %v", what, got, want)
	}
}

// list: are samples as wanted?
func list(t *testing.T, what string, got []api.Sample, want ...api.Sample) {
	t.Helper()
	if !slices.Equal(got, want) {
		t.Errorf("%s: %v, not %v", what, got, want)
	}
}

// clone: the same table, in memory of its own.
func clone(l []Row) []Row {
	var rows []Row
	for _, r := range l {
		rows = append(rows, Row{Labels: slices.Clone(r.Labels), Samples: slices.Clone(r.Samples)})
	}
	return rows
}

// scratch: each label and sample of a table is written over.
func scratch(l []Row) {
	for i := range l {
		for j := range l[i].Labels {
			l[i].Labels[j] = label.Pair{Name: "z", Value: "z"}
		}
		for j := range l[i].Samples {
			l[i].Samples[j] = api.Sample{T: -7, V: 7}
		}
		// Spare room, too: two lists of one answer share none.
		_ = append(l[i].Labels, label.Pair{Name: "y"})
		_ = append(l[i].Samples, api.Sample{T: -9})
		l[i] = Row{}
	}
}

// P14.1: the chapter's example.
func TestExample(t *testing.T) {
	a, b := []Row{row("a=1", 10, 20)}, []Row{row("a=1", 20, 30), row("b=1", 5)}
	same(t, "Tables", Tables(a, b), []Row{row("a=1", 10, 20, 30), row("b=1", 5)})
}

// P14.1: what is a table, and what isn't.
func TestGood(t *testing.T) {
	for i, l := range [][]Row{
		nil, {}, {{}}, {row("a=1")}, {row("a=1", 5)}, {row("a=1", 5, 6, 7)},
		{row("a=1", 5), row("a=2", 5)}, {row("a=1", 9), row("a=2", 1), row("b=0")},
		{row("a=1"), row("a=1,b=1"), row("a=1,c=1"), row("a=2")}, {{}, row("a=1")},
		{row("a=1", math.MinInt64, -1, 0, 1, math.MaxInt64)},
		// The labels themselves aren't asked.
		{{Labels: label.Set{{Name: "", Value: ""}}}, {Labels: label.Set{{Name: "b", Value: "1"}, {Name: "a", Value: "1"}}}},
	} {
		if !Good(l) {
			t.Errorf("%d: no table: %v", i, l)
		}
	}
	for i, l := range [][]Row{
		{row("a=1", 5, 5)}, {row("a=1", 6, 5)}, {row("a=1", 1, 2, 3, 2)}, {row("a=1", 1, 1, 2)}, {row("a=1", math.MaxInt64, math.MinInt64)},
		{row("a=1"), row("a=1")}, {row("a=1", 1), row("a=1", 2)}, {row("b=1"), row("a=1")}, {row("a=1,b=1"), row("a=1")},
		{{}, {}}, {row("a=1"), row("b=1"), row("a=1")}, {row("a=1"), row("c=1"), row("b=1"), row("d=1")},
		{row("a=1", 1), row("b=1", 2), row("c=1", 2, 2)}, {row("a=1", 3, 1), row("b=1", 2)},
		{says(row("a=1", 5, 5), 1)},
	} {
		if Good(l) {
			t.Errorf("%d: a table: %v", i, l)
		}
	}
}

// P14.1: all samples, by rising times; of one time the first list's that has it.
func TestSamples(t *testing.T) {
	at := func(times ...int64) []api.Sample { return row("", times...).Samples }
	all := func(v uint64, times ...int64) []api.Sample { return says(row("", times...), v).Samples }
	list(t, "of none", Samples())
	list(t, "of nil", Samples(nil))
	list(t, "of empty ones", Samples(nil, []api.Sample{}, nil))
	list(t, "of one", Samples(at(1, 2, 9)), at(1, 2, 9)...)
	list(t, "of one and nil", Samples(nil, at(1, 2, 9), nil), at(1, 2, 9)...)
	list(t, "one behind the other", Samples(at(1, 2), at(3, 4), at(5)), at(1, 2, 3, 4, 5)...)
	list(t, "the other way", Samples(at(5), at(3, 4), at(1, 2)), at(1, 2, 3, 4, 5)...)
	list(t, "between one another", Samples(at(2, 5, 8), at(1, 4, 7), at(3, 6, 9)), at(1, 2, 3, 4, 5, 6, 7, 8, 9)...)
	list(t, "the first one's", Samples(all(1, 5), all(2, 5), all(3, 5)), all(1, 5)...)
	list(t, "the second one's", Samples(all(1, 4), all(2, 5), all(3, 5)), append(all(1, 4), all(2, 5)...)...)
	list(t, "all alike", Samples(all(7, 1, 2, 3), all(8, 1, 2, 3), all(6, 1, 2, 3)), all(7, 1, 2, 3)...)
	list(t, "some alike", Samples(all(9, 2, 4), all(1, 1, 2, 3, 4, 5)), api.Sample{T: 1, V: 1}, api.Sample{T: 2, V: 9}, api.Sample{T: 3, V: 1}, api.Sample{T: 4, V: 9}, api.Sample{T: 5, V: 1})
	list(t, "the greatest times", Samples(at(math.MaxInt64), at(math.MinInt64, 0), at(-1, math.MaxInt64)), at(math.MinInt64, -1, 0, math.MaxInt64)...)
}

// P14.1: of one time the first list of many that has it, wherever the others are.
func TestSamplesFirstOfMany(t *testing.T) {
	const many = 20
	for first := range many {
		var l [][]api.Sample
		for i := range many {
			s := []api.Sample{{T: int64(i % 3), V: uint64(i)}}
			if i >= first {
				s = append(s, api.Sample{T: 50, V: uint64(i)})
			}
			l = append(l, s)
		}
		got := Samples(l...)
		list(t, "the last one", got[len(got)-1:], api.Sample{T: 50, V: uint64(first)})
		list(t, "the others", got[:len(got)-1], api.Sample{T: 0, V: 0}, api.Sample{T: 1, V: 1}, api.Sample{T: 2, V: 2})
	}
}

// P14.1: all labels of the tables, in the tables' order where they say another thing.
func TestTables(t *testing.T) {
	same(t, "of none", Tables(), nil)
	same(t, "of nil", Tables(nil, nil), nil)
	same(t, "of empty ones", Tables([]Row{}, nil), nil)
	a := []Row{says(row("a=1", 1, 2), 1), row("b=1", 5)}
	b := []Row{says(row("a=1", 2, 3), 2), row("a=1,b=1", 7)}
	c := []Row{row("_=1", 4), says(row("a=1", 1, 3), 3)}
	abc := Row{Labels: set("a=1"), Samples: []api.Sample{{T: 1, V: 1}, {T: 2, V: 1}, {T: 3, V: 2}}}
	cba := Row{Labels: set("a=1"), Samples: []api.Sample{{T: 1, V: 3}, {T: 2, V: 2}, {T: 3, V: 3}}}
	same(t, "in one order", Tables(a, b, c), []Row{row("_=1", 4), abc, row("a=1,b=1", 7), row("b=1", 5)})
	same(t, "in the other one", Tables(c, b, a), []Row{row("_=1", 4), cba, row("a=1,b=1", 7), row("b=1", 5)})
	same(t, "with itself", Tables(a, a, a), a)
}

// P14.1: labels without samples are there, too.
func TestTablesWithoutSamples(t *testing.T) {
	a, b := []Row{row("a=1"), row("b=1", 3), row("c=1")}, []Row{row("a=1"), row("b=1"), row("c=1", 4)}
	same(t, "both", Tables(a, b), []Row{row("a=1"), row("b=1", 3), row("c=1", 4)})
	same(t, "one", Tables(a), a)
}

// P14.1: labels are held against each other pair by pair, not as texts.
func TestTablesLabels(t *testing.T) {
	a := []Row{row("a=1,b=1", 1), row("a=1,b=2", 2), row("aa=1", 3)}
	b := []Row{row("a=1", 4), row("a=1,b=1,c=1", 5), row("a=11", 6), row("aa=1", 7)}
	same(t, "Tables", Tables(a, b), []Row{row("a=1", 4), row("a=1,b=1", 1), row("a=1,b=1,c=1", 5), row("a=1,b=2", 2), row("a=11", 6), row("aa=1", 3, 7)})
}

// P14.1: from the first time on, ahead of the second one; rows that have none are left out.
func TestBetween(t *testing.T) {
	l := []Row{row("a=1", 1, 5, 9), row("b=1", 5), row("c=1"), row("d=1", -3, 12)}
	for _, x := range []struct {
		from, to int64
		want     []Row
	}{
		{1, 5, []Row{row("a=1", 1)}},
		{1, 6, []Row{row("a=1", 1, 5), row("b=1", 5)}},
		{2, 9, []Row{row("a=1", 5), row("b=1", 5)}},
		{5, 6, []Row{row("a=1", 5), row("b=1", 5)}},
		{6, 12, []Row{row("a=1", 9)}},
		{-3, 13, []Row{row("a=1", 1, 5, 9), row("b=1", 5), row("d=1", -3, 12)}},
		{-3, 1, []Row{row("d=1", -3)}},
		{math.MinInt64, math.MaxInt64, []Row{row("a=1", 1, 5, 9), row("b=1", 5), row("d=1", -3, 12)}},
		{5, 5, nil}, {6, 5, nil}, {13, math.MaxInt64, nil}, {math.MinInt64, -3, nil}, {math.MaxInt64, math.MinInt64, nil}, {2, 5, nil},
	} {
		same(t, "Between", Between(l, x.from, x.to), x.want)
	}
	same(t, "of nil", Between(nil, 0, 9), nil)
	same(t, "the greatest time", Between([]Row{row("a=1", math.MinInt64, math.MaxInt64)}, math.MinInt64, math.MaxInt64), []Row{row("a=1", math.MinInt64)})
}

// P14.1: Between and Count ask for no table: rows may be any.
func TestBetweenAnyRows(t *testing.T) {
	l := []Row{row("b=1", 9, 3, 5, 3), row("a=1", 4), {Samples: row("", 8, 4).Samples}, row("a=1", 1, 4)}
	same(t, "Between", Between(l, 3, 6), []Row{row("b=1", 3, 5, 3), row("a=1", 4), {Samples: row("", 4).Samples}, row("a=1", 4)})
	if n := Count(l); n != 9 {
		t.Errorf("Count: %d", n)
	}
}

// P14.1: how many samples.
func TestCount(t *testing.T) {
	for i, x := range []struct {
		l []Row
		n int
	}{{nil, 0}, {[]Row{}, 0}, {[]Row{{}, row("a=1")}, 0}, {[]Row{row("a=1", 4)}, 1}, {[]Row{row("a=1", 4, 5), row("b=1"), row("c=1", 4, 6, 7)}, 5}} {
		if n := Count(x.l); n != x.n {
			t.Errorf("%d: %d, not %d", i, n, x.n)
		}
	}
}

// K3: no call changes what it is handed, nor is what it answers a part of that, or of another answer's list.
func TestAnswersAreNew(t *testing.T) {
	a, b := []Row{row("a=1", 1, 2), row("b=1", 5)}, []Row{row("a=1", 2, 3), row("c=1")}
	keptA, keptB := clone(a), clone(b)
	calls := map[string]func() []Row{
		"Tables":        func() []Row { return Tables(a, b) },
		"Tables of one": func() []Row { return Tables(a) },
		"Between":       func() []Row { return Between(a, 0, 9) },
		"Samples": func() []Row {
			return []Row{{Samples: Samples(a[0].Samples)}, {Samples: Samples(a[0].Samples, b[0].Samples)}}
		},
	}
	for what, call := range calls {
		first := call()
		want := clone(first)
		scratch(first)
		same(t, what+": the first table", a, keptA)
		same(t, what+": the second table", b, keptB)
		same(t, what+" again", call(), want)
	}
	Good(a)
	Count(b)
	same(t, "the first table", a, keptA)
	same(t, "the second table", b, keptB)
}

// K3: the list of lists that is handed in stays as it is, too.
func TestListsStay(t *testing.T) {
	l := [][]api.Sample{row("", 3).Samples, nil, row("", 1, 4).Samples}
	tables := [][]Row{{row("b=1", 2)}, {row("a=1", 1), row("b=1", 1)}}
	Samples(l...)
	Tables(tables...)
	list(t, "the first one", l[0], row("", 3).Samples...)
	list(t, "the last one", l[2], row("", 1, 4).Samples...)
	same(t, "the first one", tables[0], []Row{row("b=1", 2)})
	same(t, "the last one", tables[1], []Row{row("a=1", 1), row("b=1", 1)})
}

// P1, K7: what is no table is answered, too, each time in the same way.
func TestAnyArguments(t *testing.T) {
	no := []Row{row("b=1", 5, 5, 1), row("a=1", 2), {}, row("a=1", 9, 2), {Labels: label.Set{{}, {}}}}
	for range 20 {
		same(t, "Tables", Tables(no, no), Tables(clone(no), clone(no)))
		list(t, "Samples", Samples(no[0].Samples, no[3].Samples), Samples(no[0].Samples, no[3].Samples)...)
	}
	if Good(no) || Count(no) != 6 {
		t.Errorf("%v, %d", Good(no), Count(no))
	}
}

package script

import (
	"fmt"
	"maps"
	"slices"
	"strconv"
	"strings"
	"testing"

	"barograph/api"
	"barograph/block"
	"barograph/bucket"
	"barograph/engine"
	"barograph/ident"
	"barograph/label"
	"barograph/ledger"
	"barograph/listing"
	"barograph/merge"
	"barograph/meta"
	"barograph/plan"
	"barograph/query"
	"barograph/ship"
)

// question is what was asked for, and what had to be there then.
type question struct {
	ask query.Ask
	low []merge.Row
}

// judge plays lines, one by one, and holds what is told against what may be.
type judge struct {
	*author
	cfg       engine.Config
	w         *World
	book      ledger.Ledger
	questions map[int64]question
	oldest    map[string]int // by blocks: when the first object of it was put that ever was there
	lines     []string
	said      []string
	told      map[string]int // how often a word was told so
}

// newJudge: of an author, of a Config.
func newJudge(t *testing.T, a *author, cfg engine.Config) *judge {
	t.Helper()
	return &judge{author: a, cfg: cfg, w: world(t, cfg), questions: map[int64]question{}, oldest: map[string]int{}, told: map[string]int{}}
}

// plays: a line; is what comes of it as promised?
func (j *judge) plays(t *testing.T, line string) string {
	t.Helper()
	l := steps(t, line)
	was := j.look()
	said := strings.TrimSuffix(j.w.Play(l), "\n")
	j.lines, j.said = append(j.lines, line), append(j.said, said)
	word, _, _ := strings.Cut(line, " ")
	if strings.HasPrefix(said, "ok") {
		j.told[word]++
	} else {
		j.told[word+" "+said]++
	}
	j.hears(t, l[0], said)
	j.whole(t)
	j.marked(t, was)
	j.deleted(t, was, l[0].Kind == Sweep)
	if t.Failed() {
		t.Fatalf("%q: %q, behind %d lines; %v", line, said, len(j.lines), j.cfg)
	}
	return said
}

// hears: what a step tells.
func (j *judge) hears(t *testing.T, x Step, said string) {
	t.Helper()
	switch {
	case x.Kind == Append && said == "ok":
		j.book.Done(x.Points...)
	case x.Kind == Append && said == "error 8":
		j.book.Tried(x.Points...)
	case x.Kind == Ask && said == "ok":
		j.questions[x.N[0]] = question{query.Ask{From: x.N[1], To: x.N[2], Match: x.Match}, j.book.Sure()}
	case x.Kind == Result:
		j.result(t, x.N[0], said)
	}
	if !j.w.Engine().Up() {
		clear(j.questions)
	}
	if x.Kind == Recover && said == "ok" {
		if err := j.book.Settle(j.there(t)); err != api.OK {
			t.Errorf("P3: %d; it must be %v, and may be %v", err, j.book.Sure(), j.book.May())
		}
	}
}

// result: P4, P26.3.
func (j *judge) result(t *testing.T, n int64, said string) {
	t.Helper()
	q, there := j.questions[n]
	if said == "error 15" || said == "error 9" || said == "error 5" {
		if there != (said == "error 15") {
			t.Errorf("Result %d", n)
		}
		return
	}
	delete(j.questions, n)
	if said == "error 14" {
		return
	}
	got := rowsOf(t, said)
	if err := j.book.Answers(q.ask, q.low, got); !there || err != api.OK {
		t.Errorf("P4: %d: %v: not from %v to %v", err, q.ask, q.ask.Of(q.low), q.ask.Of(j.book.May()))
	}
}

// rowsOf: those that a Result tells.
func rowsOf(t *testing.T, said string) []merge.Row {
	t.Helper()
	rest, is := strings.CutPrefix(said, "ok")
	if !is {
		t.Fatalf("%q", said)
	}
	var rows []merge.Row
	for _, s := range strings.Split(strings.TrimPrefix(rest, " "), "; ") {
		if rest == "" {
			break
		}
		words := strings.Split(s, " ")
		labels, err := label.Parse(words[0])
		r := merge.Row{Labels: labels}
		for _, word := range words[1:] {
			at, value, _ := strings.Cut(word, "=")
			x, errT := strconv.ParseInt(at, 10, 64)
			v, errV := strconv.ParseUint(value, 10, 64)
			if err != api.OK || errT != nil || errV != nil {
				t.Fatalf("%q", said)
			}
			r.Samples = append(r.Samples, api.Sample{T: x, V: v})
		}
		rows = append(rows, r)
	}
	return rows
}

// until: a line, until that is told.
func (j *judge) until(t *testing.T, line, want string) {
	t.Helper()
	for range 100 {
		if said := j.w.Play(steps(t, line)); said == want {
			return
		}
	}
	t.Fatalf("%q: never %q", line, want)
}

// there: all samples that a world that is up says it has.
func (j *judge) there(t *testing.T) []merge.Row {
	t.Helper()
	for range 10 {
		// The rest of a round, then one of now: a query of an index that is too old tells nothing.
		j.until(t, "update 1000", "error 17\n")
		j.until(t, "update 1000", "error 17\n")
		j.until(t, "ask 9 0 "+most, "ok\n")
		j.until(t, "read 9 1000", "error 17\n")
		if said := j.w.Play(steps(t, "result 9")); said != "error 14\n" {
			return rowsOf(t, strings.TrimSuffix(said, "\n"))
		}
		// A block may be noted only when it has already been made one with others, and is deleted: a later tick's index passes the note over.
		j.until(t, "tick 1", "ok\n")
	}
	t.Fatal("P3: no query tells what there is")
	return nil
}

// thing is an object of a bucket.
type thing struct {
	data string
	at   int
}

// look: all objects of the bucket.
func (j *judge) look() map[string]thing {
	l := map[string]thing{}
	b := j.w.Engine().Bucket()
	for _, o := range b.Look("") {
		data, _ := b.Peek(o.Name)
		l[o.Name] = thing{data, o.At}
		if id, _, is := ident.Split(o.Name); is {
			if at, known := j.oldest[id]; !known || o.At < at {
				j.oldest[id] = o.At
			}
		}
	}
	return l
}

// saidOf: a block's meta; false: it has none.
func saidOf(l map[string]thing, id string) (meta.Meta, bool) {
	x, there := l[ident.Object(id, ident.Meta)]
	m, err := meta.Decode(x.data)
	return m, there && err == api.OK
}

// markOf: when a block was marked; false: it isn't.
func markOf(l map[string]thing, id string) (int, bool) {
	x, there := l[ident.Object(id, ident.Mark)]
	of, at, err := meta.DecodeMark(x.data)
	return at, there && err == api.OK && of == id
}

// isWhole: has a block its meta, and the files that this tells of?
func isWhole(l map[string]thing, id string) bool {
	m, there := saidOf(l, id)
	return there && m.ID == id && m.Files[0].Holds(l[ident.Object(id, ident.Chunks)].data) && m.Files[1].Holds(l[ident.Object(id, ident.Index)].data)
}

// blocks: the names of those that have a part.
func blocks(l map[string]thing, part string) []string {
	var ids []string
	for name := range l {
		if id, p, is := ident.Split(name); is && p == part {
			ids = append(ids, id)
		}
	}
	slices.Sort(ids)
	return ids
}

// whole: P5.
func (j *judge) whole(t *testing.T) {
	t.Helper()
	l := j.look()
	for _, id := range blocks(l, ident.Meta) {
		at, marked := markOf(l, id)
		if !isWhole(l, id) && !(marked && j.w.Engine().Now()-at > j.cfg.Delay) {
			t.Errorf("P5: %s isn't whole at %d; its mark: %v, %d", id, j.w.Engine().Now(), marked, at)
		}
	}
}

// marked: P6: of what is marked now, and wasn't, another block was made.
func (j *judge) marked(t *testing.T, was map[string]thing) {
	t.Helper()
	now := j.look()
	for _, id := range blocks(now, ident.Mark) {
		if _, before := was[ident.Object(id, ident.Mark)]; before {
			continue
		}
		made := slices.ContainsFunc(blocks(now, ident.Meta), func(other string) bool {
			m, _ := saidOf(now, other)
			return m.Lists(id) && isWhole(now, other)
		})
		if at, good := markOf(now, id); !made || !good || at > j.w.Engine().Now() {
			t.Errorf("P6: %s is marked at %d; made: %v", id, at, made)
		}
	}
}

// deleted: P6: what is gone was marked long enough ago, or its block never became one.
func (j *judge) deleted(t *testing.T, was map[string]thing, sweeps bool) {
	t.Helper()
	now := j.w.Engine().Now()
	for _, name := range slices.Sorted(maps.Keys(was)) {
		if _, there := j.w.Engine().Bucket().Peek(name); there {
			continue
		}
		id, _, is := ident.Split(name)
		at, marked := markOf(was, id)
		_, whole := saidOf(was, id)
		long := marked && now-at > j.cfg.Delay
		never := !marked && !whole && now-j.oldest[id] > j.cfg.Grace
		if !is || !sweeps || !long && !never {
			t.Errorf("P6: %s is gone at %d; its mark: %v, %d; first put at %d", name, now, marked, at, j.oldest[id])
		}
	}
}

// asked: P3, by a query of all: just what must be there is.
func (j *judge) asked(t *testing.T) {
	t.Helper()
	if !j.w.Engine().Up() {
		return
	}
	if got, want := told(j.there(t)), told(j.book.Sure()); got != want {
		t.Fatalf("P3: %s, not %s, behind %d lines; %v", got, want, len(j.lines), j.cfg)
	}
}

// untilSaid: a line, until that is told.
func (j *judge) untilSaid(t *testing.T, line, want string) {
	t.Helper()
	for range 200 {
		if j.plays(t, line) == want {
			return
		}
	}
	t.Fatalf("P7: %q: never %q", line, want)
}

// rest: P7: nothing fails any more, and no points come; the clock goes on.
func (j *judge) rest(t *testing.T) {
	t.Helper()
	e := j.w.Engine()
	e.Disk().Clear()
	e.Bucket().Clear()
	if !e.Up() {
		j.untilSaid(t, "recover", "ok")
	}
	for range 4 {
		j.plays(t, fmt.Sprint("tick ", max(j.cfg.Delay, j.cfg.Grace)+1))
		for _, line := range []string{"ship 1000", "compact 1000", "compact 1000", "sweep 1000", "sweep 1000", "update 1000", "update 1000"} {
			j.untilSaid(t, line, "error 17")
		}
	}
	if l, sent := ship.Locals(e.Disk()), ship.Noted(e.Disk()); len(l) > 0 || len(sent) > 0 {
		t.Errorf("P7: %q, %v", l, sent)
	}
	objects := slices.Sorted(maps.Keys(j.look()))
	l := listing.Of(e.Now(), objects, e.Bucket().Peek)
	p, there := plan.Next(l, j.cfg.Head.Width)
	if there || len(plan.ToMark(l)) > 0 || len(l.Marks) > 0 || len(objects) != 3*len(l.Metas)+1 {
		t.Errorf("P7: %v, %v, %q", p, l, objects)
	}
	s, _ := e.Bucket().Peek(listing.Name)
	index, err := listing.Decode(s)
	if err != api.OK || listing.Encode(listing.New(e.Now(), index.Metas, index.Marks)) != listing.Encode(l) {
		t.Errorf("P7: the index: %v, %d", index, err)
	}
	j.untilSaid(t, "checkpoint", "ok")
	j.untilSaid(t, "crash", "ok")
	j.untilSaid(t, "recover", "ok")
	// By now what a call that failed left of a local block is gone, too.
	if l := e.Disk().List(""); len(l) != 2 {
		t.Errorf("P7: %q", l)
	}
	j.asked(t)
}

// judged: a script, line by line; then it comes to rest, if it may.
func judged(t *testing.T, seed int, change func(cfg *engine.Config, a *author), lines int, rests bool) map[string]int {
	t.Helper()
	a := newAuthor(seed)
	cfg := a.config()
	change(&cfg, a)
	j := newJudge(t, a, cfg)
	for i := range lines {
		line := a.line()
		if !j.w.Engine().Up() && a.Intn(4) == 0 {
			line = "recover"
		}
		j.plays(t, line)
		if i%100 == 99 {
			j.asked(t)
		}
	}
	if rests {
		j.rest(t)
	}
	return j.told
}

// add: how often all was told.
func add(all, more map[string]int) {
	for what, n := range more {
		all[what] += n
	}
}

// P1 to P7, P26.3: scripts of all, in any order, with faults and crashes between: nothing is lost, what is told may be, and at last all comes to rest.
func TestAll(t *testing.T) {
	sum := map[string]int{}
	for seed := range 40 {
		add(sum, judged(t, seed, func(*engine.Config, *author) {}, 800, true))
	}
	seldom := 0
	for _, what := range []string{"append", "append error 8", "append error 9", "append error 10 at 0", "append error 11 at 0", "cut", "cut error 8", "cut error 17", "checkpoint", "checkpoint error 8", "checkpoint error 15", "ship", "ship error 8", "ship error 17", "compact", "compact error 8", "compact error 14", "compact error 17", "sweep", "sweep error 8", "sweep error 17", "update", "update error 8", "update error 17", "ask", "ask error 15", "read", "read error 8", "read error 14", "read error 17", "result", "result error 14", "result error 15", "crash", "recover", "recover error 6", "recover error 8", "disk", "bucket", "tick"} {
		if sum[what] < 5 {
			t.Errorf("too seldom: %s", what)
			seldom++
		}
	}
	if seldom > 0 || sum["result"] < 200 {
		t.Errorf("%v", sum)
	}
}

// P3 to P6: the same, where there is little room.
func TestLittleRoom(t *testing.T) {
	sum := map[string]int{}
	for seed := range 15 {
		add(sum, judged(t, 100+seed, func(cfg *engine.Config, a *author) { cfg.Room = 1000 + a.Intn(1500) }, 800, false))
	}
	if sum["append error 7"] < 20 || sum["append"] < 200 {
		t.Errorf("%v", sum)
	}
}

// P3 to P7: the same, where an upload may go on for long.
func TestLongGrace(t *testing.T) {
	for seed := range 15 {
		judged(t, 200+seed, func(cfg *engine.Config, a *author) {
			cfg.Delay = 1 + a.Intn(5)
			cfg.Patience = 1 + a.Intn(cfg.Delay)
			cfg.Grace = cfg.Delay + 2 + a.Intn(60)
		}, 800, true)
	}
}

// P2, K4: the same script in another world tells the same, all at once or line by line.
func TestTwice(t *testing.T) {
	for seed := range 15 {
		a := newAuthor(300 + seed)
		cfg := a.config()
		j := newJudge(t, a, cfg)
		for range 400 {
			line := a.line()
			l := steps(t, line)
			j.lines, j.said = append(j.lines, line), append(j.said, j.w.Play(l))
		}
		w := world(t, cfg)
		text := strings.Join(j.lines, "\n# one more\n\n")
		if got := w.Play(steps(t, text)); got != strings.Join(j.said, "") || state(w.Engine()) != state(j.w.Engine()) {
			t.Fatalf("seed %d: %q", seed, got)
		}
	}
}

// The judge itself: what isn't as promised is told.
func TestJudge(t *testing.T) {
	b := bucket.New()
	f, _ := block.Build("0000000000000001", 0, 10, 1, nil, []merge.Row{{Labels: label.Set{{Name: "a", Value: "1"}}, Samples: []api.Sample{{T: 1, V: 1}}}})
	b.Put(ident.Object(f.Meta.ID, ident.Meta), meta.Encode(f.Meta), 0)
	b.Put(ident.Object(f.Meta.ID, ident.Chunks), f.Chunks, 0)
	l := map[string]thing{}
	for _, o := range b.Look("") {
		data, _ := b.Peek(o.Name)
		l[o.Name] = thing{data, o.At}
	}
	if isWhole(l, f.Meta.ID) {
		t.Error("a block without an index is whole")
	}
	l[ident.Object(f.Meta.ID, ident.Index)] = thing{data: f.Index}
	if !isWhole(l, f.Meta.ID) {
		t.Error("a block with both files isn't whole")
	}
	rows := rowsOf(t, "ok a=1 1=10 25=30; b=1,c=x 2=20")
	if told(rows) != "a=1 1=10 25=30; b=1,c=x 2=20" || len(rowsOf(t, "ok")) != 0 || len(rows) != 2 || !merge.Good(rows) {
		t.Errorf("%v", rows)
	}
}

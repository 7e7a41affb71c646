package script

import (
	"strconv"
	"strings"

	"barograph/api"
	"barograph/merge"
	"barograph/query"
)

// mostTimes is how often a step is done at most, whatever its line says.
const mostTimes = 1000

// done is what a fault's second number says, if the call that fails is done all the same.
const done = 1

// Do: a step, and what is told of it.
func (w *World) Do(x Step) (string, api.Errno) {
	switch x.Kind {
	case Append:
		place, err := w.e.Append(x.Points...)
		return placeText(place), err
	case Result:
		rows, err := w.e.Result(int(x.number(0)))
		return rowsText(rows), err
	}
	return "", w.act(x)
}

// act: a step of which nothing is told but its error.
func (w *World) act(x Step) api.Errno {
	e, first := w.e, int(x.number(0))
	switch x.Kind {
	case Cut:
		return e.Cut()
	case Checkpoint:
		return e.Checkpoint()
	case Ship:
		return often(x.number(0), e.Ship)
	case Compact:
		return often(x.number(0), e.Compact)
	case Sweep:
		return often(x.number(0), e.Sweep)
	case Update:
		return often(x.number(0), e.Update)
	case Ask:
		return e.Ask(first, query.Ask{From: x.number(1), To: x.number(2), Match: x.Match})
	case Read:
		return often(x.number(1), func() api.Errno { return e.Read(first) })
	case Tick:
		e.Tick(first)
		return api.OK
	case Crash:
		e.Crash(choices(x.N)...)
		return api.OK
	case Recover:
		return e.Recover()
	case Disk:
		return e.Disk().Arm(first, x.number(1) == done)
	case Bucket:
		return e.Bucket().Arm(first, x.number(1) == done)
	}
	return api.ErrArg
}

// often: a call, so many times, as long as it answers OK.
func often(n int64, call func() api.Errno) api.Errno {
	err := call()
	for i := int64(1); i < min(n, mostTimes) && err == api.OK; i++ {
		err = call()
	}
	return err
}

// choices: what a crash leaves, file by file.
func choices(n []int64) []int {
	l := make([]int, len(n))
	for i, c := range n {
		l[i] = int(c)
	}
	return l
}

// placeText: where the first point stands that may not be; nothing, if there is none.
func placeText(place int) string {
	if place < 0 {
		return ""
	}
	return "at " + strconv.Itoa(place)
}

// rowsText: a query's answer.
func rowsText(rows []merge.Row) string {
	var b strings.Builder
	for i, r := range rows {
		if i > 0 {
			b.WriteString(semicolon + blank)
		}
		b.WriteString(r.Labels.String())
		for _, s := range r.Samples {
			b.WriteString(blank)
			b.WriteString(strconv.FormatInt(s.T, 10))
			b.WriteString(equals)
			b.WriteString(strconv.FormatUint(s.V, 10))
		}
	}
	return b.String()
}

// answer: what a step's line of what is played says.
func answer(told string, err api.Errno) string {
	s := "ok"
	if err != api.OK {
		s = "error " + strconv.Itoa(int(err))
	}
	if told != "" {
		s += blank + told
	}
	return s
}

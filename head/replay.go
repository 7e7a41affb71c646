package head

import (
	"barograph/api"
	"barograph/frame"
	"barograph/label"
	"barograph/leb"
)

const (
	mostNumber = api.MaxTime // of a series
	mostFloor  = api.MaxTime
)

// replay is a head that is made of records, and the series that these have told so far, there or not.
type replay struct {
	head     *Head
	byNumber map[int]*series
	byKey    map[string]*series
}

// Replay: the head of records.
func Replay(cfg Config, l []frame.Rec) (*Head, api.Errno) {
	h, err := New(cfg)
	if err != api.OK {
		return nil, err
	}
	r := replay{head: h, byNumber: map[int]*series{}, byKey: map[string]*series{}}
	for _, rec := range l {
		if err := r.take(rec); err != api.OK {
			return nil, err
		}
	}
	return h, api.OK
}

// take: what a record says is done.
func (r *replay) take(rec frame.Rec) api.Errno {
	rest, err := "", api.ErrForm
	switch rec.Kind {
	case KindSeries:
		rest, err = r.takeSeries(rec.Data)
	case KindSamples:
		rest, err = r.takeSample(rec.Data)
	case KindFloor:
		rest, err = r.takeFloor(rec.Data)
	}
	if err == api.OK && rest != "" {
		return api.ErrForm
	}
	return err
}

// takeSeries: a series is told; what is left.
func (r *replay) takeSeries(s string) (string, api.Errno) {
	number, rest, err := leb.TakeMost(s, mostNumber)
	if err != api.OK {
		return "", err
	}
	labels, rest, err := label.Take(rest)
	if err != api.OK {
		return "", err
	}
	r.name(number, labels)
	return rest, api.OK
}

// name: a number is that of these labels from now on.
func (r *replay) name(number int, labels label.Set) {
	if other := r.byNumber[number]; other != nil && other.number == number {
		other.number = noNumber
	}
	key := labels.Key()
	s := r.byKey[key]
	if s == nil {
		s = newSeries(labels, key)
		r.byKey[key] = s
	}
	s.number = number
	r.byNumber[number] = s
	r.head.number = max(r.head.number, number)
}

// takeSample: a sample is added, if its time may be; what is left.
func (r *replay) takeSample(s string) (string, api.Errno) {
	number, rest, err := leb.TakeMost(s, mostNumber)
	if err != api.OK {
		return "", err
	}
	at, rest, err := leb.TakeMost(rest, lastTime)
	if err != api.OK {
		return "", err
	}
	value, rest, err := leb.TakeUint(rest)
	if err != api.OK {
		return "", err
	}
	told := r.byNumber[number]
	if told == nil {
		return "", api.ErrNone
	}
	x := api.Sample{T: int64(at), V: value}
	if x.T >= r.head.floor && x.T > told.last() {
		r.head.put(told, x)
	}
	return rest, api.OK
}

// takeFloor: a floor drops; what is left.
func (r *replay) takeFloor(s string) (string, api.Errno) {
	floor, rest, err := leb.TakeMost(s, mostFloor)
	if err != api.OK {
		return "", err
	}
	r.head.Drop(int64(floor))
	return rest, api.OK
}

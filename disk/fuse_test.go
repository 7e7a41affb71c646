package disk

import (
	"math"
	"testing"

	"barograph/api"
)

// tried: what a fuse says when it is tried so often: + works, d fails and is done, - fails and isn't.
func tried(t *testing.T, f *Fuse, n int) string {
	t.Helper()
	var b []byte
	for range n {
		works, done := f.Try()
		switch {
		case works && !done:
			t.Error("a call that works wasn't done")
		case works:
			b = append(b, '+')
		case done:
			b = append(b, 'd')
		default:
			b = append(b, '-')
		}
	}
	return string(b)
}

// P4.1: a fuse without faults lets every call work.
func TestNewFuse(t *testing.T) {
	if got := tried(t, NewFuse(), 5); got != "+++++" {
		t.Errorf("%s", got)
	}
}

// P4.1: faults one behind the other; the calls that one lets work count from when it is armed.
func TestArm(t *testing.T) {
	type arm struct {
		after int
		done  bool
	}
	for _, c := range []struct {
		arms []arm
		want string
	}{
		{[]arm{{0, false}}, "-+++++++"},
		{[]arm{{0, true}}, "d+++++++"},
		{[]arm{{1, false}}, "+-++++++"},
		{[]arm{{3, true}}, "+++d++++"},
		{[]arm{{-1, true}}, "d+++++++"},
		{[]arm{{math.MinInt, false}}, "-+++++++"},
		{[]arm{{math.MaxInt, false}, {0, true}}, "++++++++"},
		{[]arm{{0, false}, {0, true}, {0, false}}, "-d-+++++"},
		{[]arm{{2, true}, {1, false}, {0, true}}, "++d+-d++"},
		{[]arm{{-5, false}, {2, true}}, "-++d++++"},
	} {
		f := NewFuse()
		for _, a := range c.arms {
			if err := f.Arm(a.after, a.done); err != api.OK {
				t.Errorf("Arm %v: %d", a, err)
			}
		}
		if got := tried(t, f, 8); got != c.want {
			t.Errorf("%v: %s, not %s", c.arms, got, c.want)
		}
	}
}

// P4.1: a fault that comes when one is armed already waits behind it.
func TestArmBehindOneArmed(t *testing.T) {
	f := NewFuse()
	f.Arm(2, true)
	got := tried(t, f, 1)
	f.Arm(0, false)
	if got += tried(t, f, 4); got != "++d-+" {
		t.Errorf("%s", got)
	}
}

// fill: as many faults as may wait, the first one after so many calls.
func fill(t *testing.T, f *Fuse, after int) {
	t.Helper()
	for i := range MaxFuses {
		if err := f.Arm(after, i%2 == 0); err != api.OK {
			t.Errorf("Arm %d: %d", i, err)
		}
		after = 0
	}
	if err := f.Arm(0, true); err != api.ErrFull {
		t.Errorf("one more: %d", err)
	}
}

// P4.1: sixteen wait, no more; the one that is armed isn't one of them.
func TestArmFull(t *testing.T) {
	f := NewFuse()
	fill(t, f, 1)
	if got := tried(t, f, 1); got != "+" {
		t.Errorf("%s", got)
	}
	if err := f.Arm(0, true); err != api.OK {
		t.Errorf("behind one armed: %d", err)
	}
	if err := f.Arm(0, true); err != api.ErrFull {
		t.Errorf("sixteen again: %d", err)
	}
	// The one that found no room left nothing behind.
	if got := tried(t, f, 19); got != "d-d-d-d-d-d-d-d-d++" {
		t.Errorf("%s", got)
	}
}

// P4.1: behind Clear none waits and none is armed, and there is room for sixteen.
func TestClear(t *testing.T) {
	f := NewFuse()
	f.Clear()
	fill(t, f, 1)
	f.Clear()
	if got := tried(t, f, 3); got != "+++" {
		t.Errorf("of those that waited: %s", got)
	}
	fill(t, f, 1)
	tried(t, f, 1)
	f.Clear()
	if got := tried(t, f, 3); got != "+++" {
		t.Errorf("of one that was armed: %s", got)
	}
	fill(t, f, 0)
}

// P4.1: what a call does is done or not as the fuse says, and its error comes first.
func TestDo(t *testing.T) {
	for _, c := range []struct {
		fault, done bool
		act, want   api.Errno
		runs        int
	}{
		{false, false, api.OK, api.OK, 1},
		{false, false, api.ErrSum, api.ErrSum, 1},
		{true, true, api.OK, api.ErrIO, 1},
		{true, true, api.ErrSum, api.ErrSum, 1},
		{true, false, api.OK, api.ErrIO, 0},
		{true, false, api.ErrSum, api.ErrIO, 0},
	} {
		f := NewFuse()
		if c.fault {
			f.Arm(0, c.done)
		}
		runs := 0
		err := f.Do(func() api.Errno {
			runs++
			return c.act
		})
		if err != c.want || runs != c.runs {
			t.Errorf("%v: %d, %d runs", c, err, runs)
		}
		if got := tried(t, f, 2); got != "++" {
			t.Errorf("%v: then %s", c, got)
		}
	}
}

// P4.1: Do is one call that tries, whatever its act does with the fuse.
func TestDoWithin(t *testing.T) {
	f := NewFuse()
	f.Arm(1, true)
	err := f.Do(func() api.Errno {
		return f.Do(func() api.Errno {
			f.Arm(0, false)
			return api.OK
		})
	})
	if err != api.ErrIO {
		t.Errorf("the inner one: %d", err)
	}
	if got := tried(t, f, 2); got != "-+" {
		t.Errorf("%s", got)
	}
}

// K3: two fuses don't see each other's faults.
func TestFusesApart(t *testing.T) {
	a, b := NewFuse(), NewFuse()
	a.Arm(0, true)
	if got := tried(t, b, 2); got != "++" {
		t.Errorf("%s", got)
	}
	b.Clear()
	if got := tried(t, a, 2); got != "d+" {
		t.Errorf("%s", got)
	}
}

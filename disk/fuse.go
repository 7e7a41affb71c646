package disk

import (
	"barograph/api"
)

// MaxFuses is the most fuses that wait.
const MaxFuses = 16

// fault: so many calls work yet (below 0: none); is what the next one was to do done?
type fault struct {
	after int
	done  bool
}

// Fuse makes calls fail, one fault behind the other.
type Fuse struct {
	waiting chan fault
	armed   bool
	now     fault // the one that is armed
}

// NewFuse: no fault.
func NewFuse() *Fuse {
	return &Fuse{waiting: make(chan fault, MaxFuses)}
}

// Arm: one more fault, behind those that wait.
func (f *Fuse) Arm(after int, done bool) api.Errno {
	select {
	case f.waiting <- fault{after: after, done: done}:
		return api.OK
	default:
		return api.ErrFull
	}
}

// take: the first fault that waits, if there is one.
func (f *Fuse) take() (fault, bool) {
	select {
	case x := <-f.waiting:
		return x, true
	default:
		return fault{}, false
	}
}

// Clear: no fault any more.
func (f *Fuse) Clear() {
	for there := true; there; {
		_, there = f.take()
	}
	f.now, f.armed = fault{}, false
}

// Try: a call: does it work? Is what it was to do done?
func (f *Fuse) Try() (bool, bool) {
	if !f.armed {
		f.now, f.armed = f.take()
	}
	if !f.armed {
		return true, true
	}
	if f.now.after > 0 {
		f.now.after--
		return true, true
	}
	done := f.now.done
	f.now, f.armed = fault{}, false
	return false, done
}

// Do: a call that does something.
func (f *Fuse) Do(act func() api.Errno) api.Errno {
	works, done := f.Try()
	if done {
		if err := act(); err != api.OK {
			return err
		}
	}
	if !works {
		return api.ErrIO
	}
	return api.OK
}

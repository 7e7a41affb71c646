package bucket

import (
	"strings"
	"testing"

	"barograph/api"
	"barograph/disk"
)

// tries: how often does a call try the bucket's fuse? The calls that still work tell.
func tries(t *testing.T, act func(b *Bucket)) int {
	t.Helper()
	const room = 5
	b := filled()
	b.Arm(room, false)
	act(b)
	left := 0
	for works := true; works && left <= room; left++ {
		works, _ = b.Try()
	}
	return room + 1 - left
}

// filled: a bucket with an object.
func filled() *Bucket {
	b := New()
	b.Put("a", "xyz", 1)
	return b
}

// P5.1: which calls try the fuse, and how often: all but Look and Peek once, but not with a name that may not be put.
func TestWhatTries(t *testing.T) {
	long := strings.Repeat("n", api.MaxName+1)
	for what, c := range map[string]struct {
		act  func(b *Bucket)
		want int
	}{
		"nothing":             {func(b *Bucket) {}, 0},
		"Put":                 {func(b *Bucket) { b.Put("b", "x", 1) }, 1},
		"Put over":            {func(b *Bucket) { b.Put("a", "x", 1) }, 1},
		"Put, no name":        {func(b *Bucket) { b.Put("", "x", 1) }, 0},
		"Put, 41":             {func(b *Bucket) { b.Put(long, "x", 1) }, 0},
		"Delete":              {func(b *Bucket) { b.Delete("a") }, 1},
		"Delete none":         {func(b *Bucket) { b.Delete("b") }, 1},
		"Delete, no name":     {func(b *Bucket) { b.Delete("") }, 1},
		"Get":                 {func(b *Bucket) { b.Get("a") }, 1},
		"Get none":            {func(b *Bucket) { b.Get("b") }, 1},
		"Get, 41":             {func(b *Bucket) { b.Get(long) }, 1},
		"Range":               {func(b *Bucket) { b.Range("a", 0, 1) }, 1},
		"Range none":          {func(b *Bucket) { b.Range("b", 0, 1) }, 1},
		"Range, no such part": {func(b *Bucket) { b.Range("a", 4, -1) }, 1},
		"List":                {func(b *Bucket) { b.List("") }, 1},
		"List none":           {func(b *Bucket) { b.List("b") }, 1},
		"Look":                {func(b *Bucket) { b.Look("") }, 0},
		"Peek":                {func(b *Bucket) { b.Peek("a") }, 0},
		"Peek none":           {func(b *Bucket) { b.Peek("b") }, 0},
	} {
		if n := tries(t, c.act); n != c.want {
			t.Errorf("%s: %d tries, not %d", what, n, c.want)
		}
	}
}

// P5.1: where a Put or a Delete fails, all of it is done, or nothing, as the fault says.
func TestPutAndDeleteFail(t *testing.T) {
	was := thing{"a", "xyz", 1}
	for what, c := range map[string]struct {
		act  func(b *Bucket) api.Errno
		done []thing
	}{
		"new":         {func(b *Bucket) api.Errno { return b.Put("b", "q", 2) }, []thing{was, {"b", "q", 2}}},
		"over":        {func(b *Bucket) api.Errno { return b.Put("a", "new bytes", 2) }, []thing{{"a", "new bytes", 2}}},
		"Delete":      {func(b *Bucket) api.Errno { return b.Delete("a") }, nil},
		"Delete none": {func(b *Bucket) api.Errno { return b.Delete("b") }, []thing{was}},
	} {
		b := filled()
		b.Arm(0, false)
		want(t, what, c.act(b), api.ErrIO)
		holds(t, what+", not done", b, was)
		b.Arm(0, true)
		want(t, what, c.act(b), api.ErrIO)
		holds(t, what+", done", b, c.done...)
		want(t, what+", again", c.act(b), api.OK)
		holds(t, what+", again", b, c.done...)
	}
}

// P5.1, K2: one that looks and fails has nothing, done or not; its error comes ahead of all others, but Put's for its name.
func TestLooksFail(t *testing.T) {
	for _, done := range []bool{false, true} {
		for _, name := range []string{"a", "b", "", strings.Repeat("n", api.MaxName+1)} {
			b := filled()
			b.Arm(0, done)
			s, err := b.Get(name)
			gets(t, "Get", s, err, "", api.ErrIO)
			for _, from := range []int{-1, 0, 4} {
				b.Arm(0, done)
				s, err = b.Range(name, from, from)
				gets(t, "Range", s, err, "", api.ErrIO)
			}
			b.Arm(0, done)
			if l, err := b.List(name); l != nil || err != api.ErrIO {
				t.Errorf("List: %v, %d", l, err)
			}
			holds(t, "behind", b, thing{"a", "xyz", 1})
			s, err = b.Get("a")
			gets(t, "and no more", s, err, "xyz", api.OK)
		}
		b := filled()
		b.Arm(0, done)
		want(t, "no name", b.Put("", "q", 2), api.ErrArg)
		want(t, "then", b.Put("b", "q", 2), api.ErrIO)
	}
}

// P5.1: Look and Peek see all while a fault is armed, and behind it.
func TestLookAndPeekDoNotFail(t *testing.T) {
	b := filled()
	b.Arm(0, true)
	holds(t, "armed", b, thing{"a", "xyz", 1})
	b.Arm(0, false)
	want(t, "Put", b.Put("b", "q", 2), api.ErrIO)
	want(t, "Put", b.Put("b", "r", 3), api.ErrIO)
	holds(t, "behind", b, thing{"a", "xyz", 1}, thing{"b", "q", 2})
}

// P5.1: the fuse's methods are the bucket's.
func TestFuseOfBucket(t *testing.T) {
	b := filled()
	for range disk.MaxFuses {
		want(t, "Arm", b.Arm(0, false), api.OK)
	}
	want(t, "full", b.Arm(0, false), api.ErrFull)
	want(t, "Put", b.Put("b", "q", 2), api.ErrIO)
	want(t, "Do", b.Do(func() api.Errno { return b.Delete("a") }), api.ErrIO)
	if works, done := b.Try(); works || done {
		t.Errorf("Try: %v, %v", works, done)
	}
	b.Clear()
	want(t, "Clear", b.Put("b", "q", 2), api.OK)
	holds(t, "Clear", b, thing{"a", "xyz", 1}, thing{"b", "q", 2})
}

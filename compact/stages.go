package compact

import (
	"math"

	"barograph/api"
	"barograph/block"
	"barograph/bucket"
	"barograph/fetch"
	"barograph/ident"
	"barograph/merge"
	"barograph/meta"
	"barograph/plan"
	"barograph/ship"
)

// look: a Step of the scan; behind the last one it is clear what there is to do.
func (c *Compactor) look(b *bucket.Bucket, now int) api.Errno {
	if err := c.scan.Step(b, now); err != api.OK {
		return err
	}
	c.since = c.scan.At()
	if c.scan.Done() {
		c.choose()
	}
	return api.OK
}

// choose: what is to be marked is marked, else blocks are made one, else it rests.
func (c *Compactor) choose() {
	l := c.scan.Listing()
	if names := plan.ToMark(l); len(names) > 0 {
		c.enter(Marks, l.At)
		c.marks = names
		return
	}
	p, there := plan.Next(l, c.cfg.Width)
	if !there {
		c.enter(Resting, never)
		return
	}
	c.enter(Reads, l.At)
	c.plan = p
	for _, m := range p.Metas {
		// All times, not the meta's alone: what isn't read is lost once the block is marked.
		c.reads = append(c.reads, fetch.New(m, 0, math.MaxInt64))
	}
}

// read: a Step of the first block that isn't read yet; the new one is built, when all are.
func (c *Compactor) read(b *bucket.Bucket, name func() (string, api.Errno)) api.Errno {
	for _, f := range c.reads {
		if !f.Done() {
			return f.Step(b)
		}
	}
	return c.build(name)
}

// build: the block of what was read, under a new name.
func (c *Compactor) build(name func() (string, api.Errno)) api.Errno {
	id, err := ask(name)
	if err != api.OK {
		return err
	}
	var tables [][]merge.Row
	for _, f := range c.reads {
		tables = append(tables, f.Rows())
	}
	p := c.plan
	f, err := block.Build(id, p.From, p.To, p.Level, p.Names(), merge.Tables(tables...))
	if err != api.OK {
		return err
	}
	// The upload itself tells when it is too old.
	c.enter(Puts, never)
	c.upload = ship.NewUpload(f)
	return api.OK
}

// ask: the name that is handed in. Where that panics there is none: Step may not panic, whatever is handed in.
func ask(name func() (string, api.Errno)) (id string, err api.Errno) {
	defer func() {
		if recover() != nil {
			id, err = "", api.ErrArg
		}
	}()
	return name()
}

// put: a Step of the upload; behind the last one the new block is whole, and its sources may be marked.
func (c *Compactor) put(b *bucket.Bucket, now int) api.Errno {
	if err := c.upload.Step(b, now, c.cfg.Grace); err != api.OK {
		return err
	}
	if c.upload.Done() {
		sources := c.upload.Block().Meta.Sources
		c.enter(Marks, now)
		c.marks = sources
	}
	return api.OK
}

// mark: the first block that isn't marked yet is; behind the last one a new round begins.
func (c *Compactor) mark(b *bucket.Bucket, now int) api.Errno {
	id := c.marks[0]
	if err := b.Put(ident.Object(id, ident.Mark), meta.EncodeMark(id, now), now); err != api.OK {
		return err
	}
	c.marks = c.marks[1:]
	if len(c.marks) == 0 {
		c.begin()
	}
	return api.OK
}

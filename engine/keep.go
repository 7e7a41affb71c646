package engine

import (
	"barograph/api"
	"barograph/block"
	"barograph/ident"
	"barograph/scan"
	"barograph/ship"
)

// Ship: one step of the first local block's way into the bucket.
func (e *Engine) Ship() api.Errno {
	if !e.Up() {
		return api.ErrDown
	}
	if e.run.upload != nil {
		return e.put()
	}
	names := ship.Locals(e.disk)
	if len(names) == 0 {
		return api.ErrIdle
	}
	f, err := ship.Load(e.disk, names[0])
	if err != api.OK {
		return err
	}
	if ship.Late(f.Meta.ID, e.now, e.cfg.Grace) {
		return e.rename(f)
	}
	e.run.upload, e.run.puts = ship.NewUpload(f), 0
	return e.put()
}

// put: one step of the upload; behind its last one the block is noted, and no local one any more.
func (e *Engine) put() api.Errno {
	u := e.run.upload
	if u.Done() {
		return e.sent(u.Block())
	}
	err := e.step(u)
	switch err {
	case api.OK:
		e.run.puts++
	case api.ErrStale:
		e.run.upload = nil
	}
	return err
}

// step: one more object, unless that is the meta, and the files that it tells of don't stay.
func (e *Engine) step(u *ship.Upload) api.Errno {
	if f := u.Block(); e.run.puts == len(f.Meta.Files) && !e.stays(f.Meta.ID) {
		return api.ErrStale
	}
	return u.Step(e.bucket, e.now, e.cfg.Grace)
}

// stays: has the bucket still what was put of a block, and isn't the sweeper at it?
func (e *Engine) stays(id string) bool {
	has := func(part string) bool {
		_, there := e.bucket.Peek(ident.Object(id, part))
		return there
	}
	// The meta may have been put before, by a call that failed or ahead of a crash, and the block been marked since, and deleted, or half so: of what is deleted the meta goes first, the mark last.
	return has(ident.Meta) || has(ident.Chunks) && has(ident.Index) && !has(ident.Mark)
}

// sent: a block that is in the bucket is noted, then erased; a query needs the one or the other, until the index has it.
func (e *Engine) sent(f block.Files) api.Errno {
	if err := ship.Note(e.disk, ship.Sent{Meta: f.Meta, At: e.now}); err != api.OK {
		return err
	}
	if err := ship.Erase(e.disk, f.Meta.ID); err != api.OK {
		return err
	}
	e.run.upload = nil
	return api.OK
}

// rename: a local block that is too old to be put has a name of now.
func (e *Engine) rename(f block.Files) api.Errno {
	table, err := f.Table()
	if err != api.OK {
		return err
	}
	id, err := e.name()
	if err != api.OK {
		return err
	}
	m := f.Meta
	again, err := block.Build(id, m.Min, m.Max, m.Level, m.Sources, table)
	if err != api.OK {
		return err
	}
	// The elder one stays until the other one is there: between them no sample is in neither.
	if err := ship.Save(e.disk, again); err != api.OK {
		return err
	}
	return ship.Erase(e.disk, m.ID)
}

// Compact: one step of the compactor; at rest a new round begins.
func (e *Engine) Compact() api.Errno {
	if !e.Up() {
		return api.ErrDown
	}
	err := e.run.compact.Step(e.bucket, e.now, e.name)
	if err == api.ErrIdle {
		e.run.compact.Again()
	}
	return err
}

// Sweep: one step of the sweeper; at its end a new round begins.
func (e *Engine) Sweep() api.Errno {
	if !e.Up() {
		return api.ErrDown
	}
	err := e.run.sweep.Step(e.bucket, e.now)
	if err == api.ErrIdle {
		e.run.sweep.Again()
	}
	return err
}

// Update: one step of the bucket's index; behind it what was sent ahead of it is forgotten, and a new round begins.
func (e *Engine) Update() api.Errno {
	if !e.Up() {
		return api.ErrDown
	}
	u := e.run.update
	if !u.Done() {
		return u.Step(e.bucket, e.now, e.cfg.Patience)
	}
	if err := e.forget(u.At()); err != api.OK {
		return err
	}
	e.run.update = scan.NewUpdate()
	return api.ErrIdle
}

// forget: what was sent ahead of a tick isn't noted any more.
func (e *Engine) forget(tick int) api.Errno {
	for _, s := range ship.Noted(e.disk) {
		// One that was sent at the tick itself may have come behind the scan's List.
		if s.At >= tick {
			continue
		}
		if err := ship.Forget(e.disk, s.Meta.ID); err != api.OK {
			return err
		}
	}
	return api.OK
}

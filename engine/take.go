package engine

import (
	"barograph/api"
	"barograph/block"
	"barograph/head"
	"barograph/ship"
)

// Append: points are there for sure; the place of the first that may not be, else -1.
func (e *Engine) Append(l ...head.Point) (int, api.Errno) {
	if !e.Up() {
		return -1, api.ErrDown
	}
	h := e.run.head
	if place, err := h.Check(l...); err != api.OK {
		return place, err
	}
	if err := e.logged(e.run.log.Append(h.Records(l...)...)); err != api.OK {
		return -1, err
	}
	h.Add(l...)
	return -1, api.OK
}

// logged: how a call of the log ended. With one that is broken it goes down: what a failed call left is known only when it has recovered.
func (e *Engine) logged(err api.Errno) api.Errno {
	if e.run.log.Broken() {
		e.run = nil
	}
	return err
}

// Cut: the oldest range of the head is a local block.
func (e *Engine) Cut() api.Errno {
	if !e.Up() {
		return api.ErrDown
	}
	h := e.run.head
	from, to, may := h.Oldest()
	if !may {
		return api.ErrIdle
	}
	id, err := e.name()
	if err != api.OK {
		return err
	}
	f, err := block.Build(id, from, to, 1, nil, h.Select(from, to))
	if err != api.OK {
		return err
	}
	if err := ship.Save(e.disk, f); err != api.OK {
		return err
	}
	// Not ahead of the block: a floor that is logged drops samples of the head that is made again.
	if err := e.floor(id, to); err != api.OK {
		return err
	}
	h.Drop(to)
	return api.OK
}

// name: that of a block that is made now.
func (e *Engine) name() (string, api.Errno) {
	return ship.Next(e.disk, e.now)
}

// floor: a floor is logged, as samples below it are in a local block; which goes again, if there is no room for the record.
func (e *Engine) floor(id string, to int64) api.Errno {
	err := e.logged(e.run.log.Append(head.FloorRec(to)))
	if err == api.ErrFull {
		// Where that fails, too, the samples are in the head and in the block: none is lost.
		ship.Erase(e.disk, id)
	}
	return err
}

// Checkpoint: the log has what is in the head alone; not while there are local blocks.
func (e *Engine) Checkpoint() api.Errno {
	if !e.Up() {
		return api.ErrDown
	}
	if len(ship.Locals(e.disk)) > 0 {
		return api.ErrBusy
	}
	return e.logged(e.run.log.Restart(e.run.head.Dump()...))
}

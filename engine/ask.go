package engine

import (
	"barograph/api"
	"barograph/merge"
	"barograph/query"
	"barograph/ship"
)

// Ask: a query of a number begins.
func (e *Engine) Ask(n int, a query.Ask) api.Errno {
	if !e.Up() {
		return api.ErrDown
	}
	if err := a.Check(); err != api.OK {
		return err
	}
	if _, there := e.run.queries[n]; there {
		return api.ErrBusy
	}
	tables, err := e.tables(a)
	if err != api.OK {
		return err
	}
	e.run.queries[n] = query.New(a, e.cfg.Delay, ship.Noted(e.disk), tables...)
	return api.OK
}

// tables: what isn't in the bucket: of the head what is asked for, and the local blocks.
func (e *Engine) tables(a query.Ask) ([][]merge.Row, api.Errno) {
	tables := [][]merge.Row{e.run.head.Select(a.From, a.To, a.Match...)}
	for _, id := range ship.Locals(e.disk) {
		f, err := ship.Load(e.disk, id)
		if err != api.OK {
			return nil, err
		}
		table, err := f.Table()
		if err != api.OK {
			return nil, err
		}
		tables = append(tables, table)
	}
	return tables, api.OK
}

// Read: one step of a query.
func (e *Engine) Read(n int) api.Errno {
	if !e.Up() {
		return api.ErrDown
	}
	q, there := e.run.queries[n]
	if !there {
		return api.ErrNone
	}
	return q.Step(e.bucket, e.now)
}

// Result: a query's answer, when it has ended; then there is none of its number.
func (e *Engine) Result(n int) ([]merge.Row, api.Errno) {
	if !e.Up() {
		return nil, api.ErrDown
	}
	q, there := e.run.queries[n]
	if !there {
		return nil, api.ErrNone
	}
	rows, err := q.Result()
	if err != api.ErrBusy {
		delete(e.run.queries, n)
	}
	return rows, err
}

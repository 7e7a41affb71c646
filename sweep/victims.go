package sweep

import (
	"maps"
	"slices"

	"barograph/bucket"
	"barograph/ident"
)

// order: in which a block's parts are deleted: the meta first, as it says that the others are there; the mark last, as it says that they may go.
var order = [...]string{ident.Meta, ident.Index, ident.Chunks, ident.Mark}

// found is what there is of a block: its parts, and when the first of them was put.
type found struct {
	parts []string
	first int
}

// Victims: the objects that are to be deleted, as of a tick, of what there is, and of marks: block by block, meta first, mark last.
func Victims(cfg Config, now int, l []bucket.Info, marks map[string]int) []string {
	blocks := map[string]found{}
	for _, o := range l {
		if id, part, is := ident.Split(o.Name); is {
			blocks[id] = blocks[id].with(part, o.At)
		}
	}
	var names []string
	for _, id := range slices.Sorted(maps.Keys(blocks)) {
		f := blocks[id]
		at, marked := marks[id]
		if marked && now-at > cfg.Delay || !marked && f.isLeft(now, cfg.Grace) {
			names = append(names, f.objects(id)...)
		}
	}
	return names
}

// with: what there is with a part more, put at a tick.
func (f found) with(part string, at int) found {
	if len(f.parts) == 0 || at < f.first {
		f.first = at
	}
	f.parts = append(f.parts, part)
	return f
}

// isLeft: is it left of what never became a block, and won't any more?
func (f found) isLeft(now, grace int) bool {
	return !slices.Contains(f.parts, ident.Meta) && now-f.first > grace
}

// objects: the names of what there is of a block, in the order in which that is deleted.
func (f found) objects(id string) []string {
	var names []string
	for _, part := range order {
		if slices.Contains(f.parts, part) {
			names = append(names, ident.Object(id, part))
		}
	}
	return names
}

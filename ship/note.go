package ship

import (
	"barograph/api"
	"barograph/disk"
	"barograph/frame"
	"barograph/meta"
)

const notePrefix = "shp-"

// Sent is a block that was shipped at a tick.
type Sent struct {
	Meta meta.Meta
	At   int
}

// noteFile: the name of a block's note.
func noteFile(id string) string {
	return notePrefix + id
}

// Note: that a block was shipped is there, for sure.
func Note(d *disk.Disk, s Sent) api.Errno {
	id := s.Meta.ID
	return fresh(d, noteFile(id), meta.Encode(s.Meta)+meta.EncodeMark(id, s.At))
}

// Noted: what was noted, by rising names.
func Noted(d *disk.Disk) []Sent {
	var l []Sent
	for _, name := range d.List(notePrefix) {
		// What is listed is there: nothing comes between.
		said, _ := d.Read(name)
		if s, is := readNote(said); is {
			l = append(l, s)
		}
	}
	return l
}

// readNote: what a note's bytes say; false: they are no note's.
func readNote(said string) (Sent, bool) {
	_, mark, err := frame.Next(said)
	if err != api.OK {
		return Sent{}, false
	}
	m, err := meta.Decode(said[:len(said)-len(mark)])
	if err != api.OK {
		return Sent{}, false
	}
	id, at, err := meta.DecodeMark(mark)
	if err != api.OK || id != m.ID {
		return Sent{}, false
	}
	return Sent{Meta: m, At: at}, true
}

// Forget: that a block was shipped isn't noted any more.
func Forget(d *disk.Disk, id string) api.Errno {
	return remove(d, noteFile(id))
}

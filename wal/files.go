package wal

import (
	"slices"
	"strconv"
	"strings"

	"barograph/api"
	"barograph/disk"
)

const (
	prefix      = "wal-"
	digits      = 8
	lastSegment = 1 << 40
	unfinished  = "tmp-wal" // what a fresh file is named until it has all its bytes
)

// Name: a segment's file.
func Name(seg int) string {
	s := strconv.Itoa(seg)
	return prefix + strings.Repeat("0", max(digits-len(s), 0)) + s
}

// number: that of the segment whose file has this name; 0: it is no segment's.
func number(name string) int {
	seg, err := strconv.Atoi(strings.TrimPrefix(name, prefix))
	// Name has the one spelling of a number: no sign, no needless noughts.
	if err != nil || seg < 1 || seg > lastSegment || Name(seg) != name {
		return 0
	}
	return seg
}

// segments: the numbers of those that a disk has, rising.
func segments(d *disk.Disk) []int {
	var l []int
	for _, name := range d.List(prefix) {
		if seg := number(name); seg > 0 {
			l = append(l, seg)
		}
	}
	// A number of nine digits may have a name that comes ahead of one of eight.
	slices.Sort(l)
	return l
}

// Fresh: a file has just these bytes, for sure, all at once.
func Fresh(d *disk.Disk, name, s string) api.Errno {
	// Asked ahead: what finds no room changes nothing, so the unfinished file stays then.
	old, _ := d.Read(unfinished)
	if len(s) > d.Free()+len(old) {
		return api.ErrFull
	}
	if err := d.Remove(unfinished); err != api.OK && err != api.ErrNone {
		return err
	}
	if err := d.Append(unfinished, s); err != api.OK {
		return err
	}
	if err := d.Sync(unfinished); err != api.OK {
		return err
	}
	return d.Rename(unfinished, name)
}

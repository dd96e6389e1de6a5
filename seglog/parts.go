package seglog

import (
	"sort"
	"strconv"
	"strings"

	"postroad/api"
	"postroad/segment"
	"postroad/vdisk"
)

// The digits of a file's name are as many as those of MaxOffset, with noughts ahead, so that names rise as bases do.
const (
	namePrefix = "seg"
	nameDigits = 13
)

// part is a segment of the log, and the name of its file.
type part struct {
	*segment.Segment
	name string
}

func openPart(d *vdisk.Disk, base int) (*part, api.Errno) {
	name := nameOf(base)
	s, _, e := segment.Open(d, name, base)
	if e != api.OK {
		return nil, e
	}
	return &part{Segment: s, name: name}, api.OK
}

// nameOf is the name of the file of a segment with a base.
func nameOf(base int) string {
	digits := strconv.Itoa(base)
	return namePrefix + strings.Repeat("0", nameDigits-len(digits)) + digits
}

// baseOf is the base that a file's name tells; false: it is no segment's.
func baseOf(name string) (int, bool) {
	digits, ok := strings.CutPrefix(name, namePrefix)
	if !ok || len(digits) != nameDigits {
		return 0, false
	}
	base, err := strconv.Atoi(digits)
	if err != nil || nameOf(base) != name { // Atoi takes signs, too
		return 0, false
	}
	return base, true
}

// takeFiles takes the segments that the disk has behind the first one. A file that does not follow is none of the log's any more: it goes, or its batches would be met when the log comes to its base.
func (l *Log) takeFiles() {
	l.disk.Remove(asideName)
	for _, name := range l.disk.Names() {
		base, ok := baseOf(name)
		if !ok || base == 0 {
			continue
		}
		if base != l.End() {
			l.disk.Remove(name)
			continue
		}
		if p, e := openPart(l.disk, base); e == api.OK {
			l.parts = append(l.parts, p)
		}
	}
}

func (l *Log) last() *part {
	return l.parts[len(l.parts)-1]
}

// partAt is the number of the last part whose base is not above an offset; -1: there is none.
func (l *Log) partAt(offset int) int {
	return sort.Search(len(l.parts), func(i int) bool { return l.parts[i].Base() > offset }) - 1
}

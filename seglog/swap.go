package seglog

import (
	"strings"

	"postroad/api"
	"postroad/batch"
)

// What is to come in the place of a file is written aside first. The name is no segment's.
const asideName = namePrefix + "aside"

// Swap lets a closed segment have other batches with the same offsets.
func (l *Log) Swap(base int, batches []string) api.Errno {
	if !l.given() {
		return api.ErrArg
	}
	at := l.partAt(base)
	if at < 0 || at == len(l.parts)-1 || l.parts[at].Base() != base {
		return api.ErrNone
	}
	if !follow(batches, base, l.parts[at].End()) {
		return api.ErrBatch
	}
	if e := l.replace(l.parts[at].name, strings.Join(batches, "")); e != api.OK {
		return e
	}
	p, e := openPart(l.disk, base)
	if e != api.OK {
		return e
	}
	l.parts[at] = p
	return l.Sync() // what stands when a swap is done survives, in the last segment as well
}

// replace lets a file have other bytes, by one step that is done wholly or not at all: a file that is synced takes its name.
func (l *Log) replace(name, s string) api.Errno {
	if e := l.disk.Append(asideName, s); e != api.OK {
		return e
	}
	l.disk.Sync(asideName)
	return l.disk.Rename(asideName, name)
}

// follow tells whether texts are the bytes of batches that follow one another from a base to an end.
func follow(batches []string, base, end int) bool {
	for _, s := range batches {
		b, n, e := batch.Of(s)
		if e != api.OK || n != len(s) || b.Base != base {
			return false
		}
		base = b.Base + b.Count
	}
	return base == end
}

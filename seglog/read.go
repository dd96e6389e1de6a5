package seglog

import (
	"strings"

	"postroad/api"
	"postroad/batch"
	"postroad/vdisk"
)

// Batch is the bytes of the batch that has an offset.
func (l *Log) Batch(offset int) (string, api.Errno) {
	if !l.given() {
		return "", api.ErrArg
	}
	at := l.partAt(offset)
	if at < 0 {
		return "", api.ErrNone
	}
	return l.parts[at].Batch(offset)
}

// Batches are the bytes of all batches from an offset on, that is one's base.
func (l *Log) Batches(offset int) ([]string, api.Errno) {
	if !l.given() {
		return nil, api.ErrArg
	}
	if offset == l.End() {
		return nil, api.OK
	}
	if !l.begins(offset) {
		return nil, api.ErrNone
	}
	var all []string
	for _, p := range l.parts[l.partAt(offset):] {
		some, e := p.from(l.disk, offset)
		if e != api.OK {
			return nil, e
		}
		all = append(all, some...)
	}
	return all, api.OK
}

// begins tells whether an offset is a batch's base.
func (l *Log) begins(offset int) bool {
	s, e := l.Batch(offset)
	if e != api.OK {
		return false
	}
	b, _, e := batch.Head(s)
	return e == api.OK && b.Base == offset
}

// from are the bytes of a part's batches from an offset on. The file is read at once: to find them one by one would be to go over those between two listed places again and again.
func (p *part) from(d *vdisk.Disk, offset int) ([]string, api.Errno) {
	rest, _ := d.Read(p.name, 0, p.Size())
	var out []string
	for at := p.Base(); at < p.End(); {
		b, n, e := batch.Head(rest)
		if e != api.OK || b.Base != at {
			return nil, api.ErrNone // the file was changed by another than the log
		}
		if at >= offset {
			out = append(out, strings.Clone(rest[:n])) // or each would hold the memory of all
		}
		at, rest = b.Base+b.Count, rest[n:]
	}
	return out, api.OK
}

// Read are records from an offset on, below another one, so many.
func (l *Log) Read(offset, below, most int) ([]api.Record, api.Errno) {
	if !l.given() || offset < 0 || below < 0 || most < 0 {
		return nil, api.ErrArg
	}
	var out []api.Record
	for at := offset; at < min(below, l.End()) && len(out) < most; {
		s, e := l.Batch(at)
		if e != api.OK {
			return nil, e
		}
		b, _, e := batch.Of(s)
		if e != api.OK {
			return nil, api.ErrNone // the file was changed by another than the log
		}
		for _, r := range b.Records {
			if offset <= r.Offset && r.Offset < below && len(out) < most {
				out = append(out, r)
			}
		}
		at = b.Base + b.Count
	}
	return out, api.OK
}

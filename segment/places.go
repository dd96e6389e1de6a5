package segment

import (
	"postroad/api"
	"postroad/batch"
)

// A place is listed where so many bytes or more stand between it and the one listed ahead: the list stays short, and little is read to find a batch.
const listedApart = 1 << 12

// place is where a batch stands: its base, and how many bytes and batches stand ahead of it.
type place struct {
	offset  int
	bytes   int
	batches int
}

// after is the place behind a batch of so many bytes that stands at p.
func (p place) after(b api.Batch, n int) place {
	return place{offset: b.Base + b.Count, bytes: p.bytes + n, batches: p.batches + 1}
}

// take lets a batch of so many bytes be the last one.
func (s *Segment) take(b api.Batch, n int) {
	last := len(s.places) - 1
	if last < 0 || s.behind.bytes-s.places[last].bytes >= listedApart {
		s.places = append(s.places, s.behind)
	}
	s.behind = s.behind.after(b, n)
}

// dropFrom drops the batch at a place and all behind it.
func (s *Segment) dropFrom(at place) {
	for last := len(s.places) - 1; last >= 0 && s.places[last].bytes >= at.bytes; last-- {
		s.places = s.places[:last]
	}
	s.behind = at
}

// find is the place and the bytes of the batch that has an offset.
func (s *Segment) find(offset int) (place, string, api.Errno) {
	if offset < s.base || offset >= s.behind.offset {
		return place{}, "", api.ErrNone
	}
	at, until := s.around(offset)
	rest, _ := s.disk.Read(s.name, at.bytes, until.bytes-at.bytes)
walking:
	for {
		b, n, e := batch.Head(rest)
		next := at.after(b, n)
		switch {
		case e != api.OK || b.Base != at.offset:
			break walking // the file was changed by another than the segment
		case offset < next.offset:
			return at, rest[:n], api.OK
		}
		at, rest = next, rest[n:]
	}
	return place{}, "", api.ErrNone
}

// around are the listed place next below an offset that a batch has, or at it, and the one behind that: the batch stands between them.
func (s *Segment) around(offset int) (place, place) {
	low, high := 0, len(s.places)
	for high-low > 1 {
		middle := low + (high-low)/2
		if s.places[middle].offset <= offset {
			low = middle
		} else {
			high = middle
		}
	}
	if high == len(s.places) {
		return s.places[low], s.behind
	}
	return s.places[low], s.places[high]
}

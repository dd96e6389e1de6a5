package replica

import (
	"postroad/api"
	"postroad/batch"
)

// A message tells batches of so many bytes at most, or one. So it is far from MaxWire, whose many texts it has not either: a batch has 39 bytes or more.
const pieceBytes = 1 << 17

func endOf(b api.Batch) int { return b.Base + b.Count }

// takeLog notes all batches of the log, and tells the last one's view.
func (n *Node) takeLog() int {
	view := 0
	all, _ := n.log.Batches(0) // a log has what begins at 0
	for _, s := range all {
		b, _, _ := batch.Head(s) // a log has none but batches
		n.table.Put(b)
		view = b.View
	}
	return view
}

// at is the batch that begins at an offset, without its records, and its bytes; false: none begins there.
func (n *Node) at(offset int) (api.Batch, string, bool) {
	s, e := n.log.Batch(offset)
	if e != api.OK {
		return api.Batch{}, "", false
	}
	b, _, e := batch.Head(s)
	return b, s, e == api.OK && b.Base == offset
}

// parts tells whether an offset parts batches: one begins there, or the log ends.
func (n *Node) parts(offset int) bool {
	if offset == n.log.End() {
		return true
	}
	_, _, ok := n.at(offset)
	return ok
}

// has tells whether a batch is in the log. What a primary appends it appends once at one offset in its view: the records are the same, or are compacted.
func (n *Node) has(b api.Batch) bool {
	own, _, ok := n.at(b.Base)
	return ok && own.Count == b.Count && own.View == b.View && own.Producer == b.Producer && own.Seq == b.Seq
}

// keep appends a batch, and lets it survive. So the log is as it must be up to its end.
func (n *Node) keep(b api.Batch, s string) bool {
	if n.table.Put(b) != api.OK {
		return false
	}
	if n.log.Append(s) != api.OK || n.log.Sync() != api.OK {
		n.cut(b.Base)
		return false
	}
	n.match = n.log.End()
	return true
}

// cut drops all from an offset on.
func (n *Node) cut(offset int) bool {
	n.table.Cut(offset)
	return n.log.Cut(offset) == api.OK
}

// piece are the bytes of batches from an offset on, not too many for a message; false: none begins there, nor does the log end.
func (n *Node) piece(offset int) ([]string, bool) {
	if !n.parts(offset) {
		return nil, false
	}
	var out []string
	size := 0
	for offset < n.log.End() {
		b, s, ok := n.at(offset)
		if !ok {
			return nil, false
		}
		if size += len(s); size > pieceBytes && len(out) > 0 {
			break
		}
		out = append(out, s)
		offset = endOf(b)
	}
	return out, true
}

// takeFrom lets the log be as a message tells, from where it is known to be so.
func (n *Node) takeFrom(m api.Message) {
	for _, s := range m.Log {
		b, _, e := batch.Head(s)
		if e != api.OK || b.Base >= n.match && !n.take(b, s, m.Commit) {
			return
		}
	}
}

// take lets a batch stand where the log is not known yet to be as it must be. The sender knows so much to be committed.
func (n *Node) take(b api.Batch, s string, known int) bool {
	if b.Base != n.match {
		return false
	}
	if b.Base < n.log.End() {
		if n.has(b) {
			n.match = endOf(b)
			return true
		}
		if !n.cut(b.Base) {
			return false
		}
	}
	if !n.keep(b, s) {
		return false
	}
	// The sender may have compacted it, as far as that.
	if endOf(b) <= known && !n.holdTo(known) {
		n.match = b.Base
		n.cut(b.Base)
		return false
	}
	return true
}

// holdTo lets commit not stop below an offset from now on.
func (n *Node) holdTo(offset int) bool {
	if offset <= n.notes.hold {
		return true
	}
	next := n.notes
	next.hold = offset
	return n.note(next)
}

// raise lets commit be as far as is told, and as the log is known to be as it must be; it tells whether that is farther than it was.
func (n *Node) raise(told int) bool {
	next := n.notes
	next.commit = min(told, n.match)
	if next.commit <= n.notes.commit || next.commit < n.notes.hold || !n.parts(next.commit) {
		return false
	}
	return n.note(next)
}

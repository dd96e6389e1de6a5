package replica

import (
	"slices"

	"postroad/api"
)

// onPrimary follows a primary that is at work, whatever it tells.
func (n *Node) onPrimary(m api.Message) []api.Message {
	isPrimary := m.From == n.primaryOf(m.View) && m.Normal == m.View
	if !isPrimary || m.Commit > m.End {
		return nil
	}
	out, ok := n.reach(m.View)
	if !ok {
		return nil
	}
	n.silent = 0
	return append(out, n.follow(m)...)
}

// follow lets the log be as its primary's: it is told how far it stands, or is asked for what is lacking.
func (n *Node) follow(m api.Message) []api.Message {
	was := n.match
	n.takeFrom(m)
	n.raise(m.Commit)
	switch {
	case n.match < m.End && m.Kind == api.MsgState && n.match == was:
		return nil // it has no room for what it was told: to ask at once would be to ask for ever
	case n.match < m.End:
		return n.ask(m.From)
	case !n.settle():
		return nil
	}
	return to(m.From, n.message(api.MsgOk))
}

// settle lets the log end where it is known to be as the primary's: that of the view's beginning is among it, so that from now on its vote is of this view.
func (n *Node) settle() bool {
	if n.notes.normal == n.notes.view {
		return true
	}
	if n.match < n.log.End() && !n.cut(n.match) {
		return false
	}
	next := n.notes
	next.normal = next.view
	return n.note(next)
}

// ask asks a node for its log, from where this one's is not known to be as that.
func (n *Node) ask(node int) []api.Message {
	m := n.message(api.MsgAsk)
	m.Base = n.match
	return to(node, m)
}

// onAsk tells a piece of the log: that of a primary at work, or ahead of its view's beginning to the primary.
func (n *Node) onAsk(m api.Message) []api.Message {
	mayTell := n.atWork() || n.notes.normal < n.notes.view && m.From == n.primaryOf(n.notes.view)
	if m.View != n.notes.view || !mayTell {
		return nil
	}
	log, ok := n.piece(m.Base)
	if !ok {
		return nil
	}
	told := n.message(api.MsgState)
	told.Log = log
	return to(m.From, told)
}

// onState takes a piece of a log.
func (n *Node) onState(m api.Message) []api.Message {
	if n.id != n.primaryOf(m.View) {
		return n.onPrimary(m)
	}
	if m.View != n.notes.view || m.From != n.source {
		return nil
	}
	return n.inherit(m)
}

// onOk notes up to where a node's log stands as this primary's: what stands so at a majority is committed.
func (n *Node) onOk(m api.Message) []api.Message {
	p := &n.peers[m.From]
	if !n.atWork() || m.View != n.notes.view || m.End <= p.acked {
		return nil
	}
	p.acked = m.End
	if !n.raise(n.agreed()) {
		return nil
	}
	return append(n.answers(), n.toAll(n.message(api.MsgCommit))...)
}

// agreed is up to where a majority's logs stand as this primary's.
func (n *Node) agreed() int {
	var ends []int
	for _, p := range n.peers {
		ends = append(ends, p.acked)
	}
	ends[n.id] = n.log.End()
	slices.Sort(ends)
	return ends[len(ends)-n.majority()]
}

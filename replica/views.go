package replica

import "postroad/api"

func (n *Node) primaryOf(view int) int { return view % n.config.Nodes }

func (n *Node) majority() int { return n.config.Nodes/2 + 1 }

// atWork tells whether it is the primary, and has begun its view.
func (n *Node) atWork() bool {
	return n.id == n.primaryOf(n.notes.view) && n.notes.normal == n.notes.view
}

// isLost tells whether it had patience enough with its view's primary.
func (n *Node) isLost() bool { return n.silent > n.config.Patience }

// seek are the messages of a node whose clock ticks, and that is no primary at work: what it lacks it asks for once more. A node does not leave its view by itself: it asks others whether they do not hear the primary either. So one that was cut off does not end a view in which all others are well.
func (n *Node) seek() []api.Message {
	var out []api.Message
	begun := n.notes.normal == n.notes.view
	if !begun || n.isLost() {
		m := n.message(api.MsgChange)
		if n.isLost() {
			m.Base = n.clock
		}
		out = n.toAll(m)
	}
	if !begun {
		out = append(out, n.vote()...)
	}
	if n.source != nobody {
		out = append(out, n.ask(n.source)...)
	}
	return out
}

// reach lets the node be in a view, and tells whether it is: it does not go back. The clients that wait are told, if it goes on.
func (n *Node) reach(view int) ([]api.Message, bool) {
	if view <= n.notes.view {
		return nil, view == n.notes.view
	}
	return n.enter(view)
}

// enter lets the node be in a later view. That is noted, since what it tells in one view holds as long as it tells nothing in earlier ones.
func (n *Node) enter(view int) ([]api.Message, bool) {
	next := n.notes
	next.view = view
	if !n.note(next) {
		return nil, false
	}
	n.beginAnew()
	return n.dismiss(), true
}

// beginAnew lets the node know no more than its notes and its log tell.
func (n *Node) beginAnew() {
	n.match = n.notes.commit
	if n.notes.normal == n.notes.view {
		n.match = n.log.End()
	}
	n.peers = make([]peer, n.config.Nodes)
	n.source = nobody
	n.silent = 0
}

// onChange hears of a node in a view that has not begun, or that does not hear its primary.
func (n *Node) onChange(m api.Message) []api.Message {
	was := n.notes.view
	out, ok := n.reach(m.View)
	switch {
	case !ok:
		return nil
	case n.notes.view > was:
		return append(out, n.vote()...)
	case m.Err == api.ErrPrimary:
		return n.leave(m)
	case n.atWork():
		return to(m.From, n.message(api.MsgCommit))
	}
	if m.Base == 0 || !n.isLost() {
		return nil
	}
	agrees := n.message(api.MsgChange)
	agrees.Base = m.Base
	agrees.Err = api.ErrPrimary
	return to(m.From, agrees)
}

// leave goes on to the next view, if a majority agrees that this one's primary is not heard. What was answered to an earlier question than the last one may be so no more.
func (n *Node) leave(m api.Message) []api.Message {
	if n.atWork() || !n.isLost() || m.Base != n.clock {
		return nil
	}
	n.peers[m.From].leaves = m.Base
	agree := 1
	for _, p := range n.peers {
		if p.leaves == n.clock {
			agree++
		}
	}
	if agree < n.majority() {
		return nil
	}
	out, ok := n.enter(n.notes.view + 1)
	if !ok {
		return nil
	}
	return append(out, n.vote()...)
}

// vote tells the view's primary of the log. Its own vote the primary need not be told.
func (n *Node) vote() []api.Message {
	primary := n.primaryOf(n.notes.view)
	if primary == n.id {
		return nil
	}
	return to(primary, n.message(api.MsgDo))
}

// onDo notes a vote.
func (n *Node) onDo(m api.Message) []api.Message {
	if n.id != n.primaryOf(m.View) || m.Normal >= m.View {
		return nil
	}
	out, ok := n.reach(m.View)
	if !ok || n.atWork() || n.source != nobody {
		return out
	}
	p := &n.peers[m.From]
	p.voted, p.normal, p.end = true, m.Normal, m.End
	return append(out, n.elect()...)
}

// elect takes the best log, once a majority has voted: of the latest view in which one was as its primary's the longest. What was committed is in it.
func (n *Node) elect() []api.Message {
	votes := 1
	best := peer{normal: n.notes.normal, end: n.log.End()}
	source := nobody
	for node, p := range n.peers {
		if !p.voted {
			continue
		}
		votes++
		if p.normal > best.normal || p.normal == best.normal && p.end > best.end {
			best, source = p, node
		}
	}
	if votes < n.majority() {
		return nil
	}
	if source == nobody {
		n.match = n.log.End()
		return n.begin()
	}
	n.source = source
	return n.ask(source)
}

// inherit takes a piece of the best log, and begins the view with all of it.
func (n *Node) inherit(m api.Message) []api.Message {
	best := n.peers[n.source]
	if m.Normal != best.normal || m.End != best.end || m.Commit > m.End {
		return nil
	}
	was := n.match
	n.takeFrom(m)
	switch {
	case n.match >= m.End:
		return n.begin()
	case n.match > was:
		return n.ask(n.source)
	}
	return nil
}

// begin lets the primary be at work.
func (n *Node) begin() []api.Message {
	if !n.settle() {
		return nil
	}
	n.source = nobody
	return n.toAll(n.message(api.MsgStart))
}

package replica

import (
	"postroad/api"
	"postroad/wire"
)

// message is one of a kind to another node: to whom is still to be said.
func (n *Node) message(kind int) api.Message {
	return api.Message{
		Kind: kind, From: n.id,
		View: n.notes.view, Normal: n.notes.normal, End: n.log.End(), Commit: n.notes.known(),
	}
}

// to is a message to one node.
func to(node int, m api.Message) []api.Message {
	m.To = node
	return []api.Message{m}
}

// toAll are a message to each other node: to the primary first, so that it is the first to answer, too.
func (n *Node) toAll(m api.Message) []api.Message {
	var out []api.Message
	for i := range n.config.Nodes {
		m.To = n.primaryOf(n.notes.view + i)
		if m.To != n.id {
			out = append(out, m)
		}
	}
	return out
}

// texts are messages' bytes.
func texts(l []api.Message) []string {
	var out []string
	for _, m := range l {
		if s, e := wire.Bytes(m); e == api.OK {
			out = append(out, s)
		}
	}
	return out
}

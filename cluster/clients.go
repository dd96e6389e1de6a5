package cluster

import (
	"strings"

	"postroad/api"
	"postroad/wire"
)

const (
	firstClient = 100

	// A client that is refused more often in a step asks again at its end, not at once: nodes that refuse it again and again would keep the step from ending.
	mostRefused = 64
)

// client is one who asks for batches, one by one.
type client struct {
	number  int
	nodes   int            // how many there are
	batches [][]api.Record // those that are not answered for good: it waits for the first one
	done    int            // how many are
	asks    []string       // the bytes that ask each node for that one, made once: however often a client asks, they are kept once
	node    int            // in which it believes
	view    int            // the latest one that it was told of
	silent  int            // its clock's ticks since it was told anything
	refused int            // how often it was, in this step, and for this batch
	late    bool           // it asks again at the step's end
}

func (k *client) waits() bool { return len(k.batches) > 0 }

// id is that of the batch that it waits for.
func (k *client) id() api.Id { return api.Id{Producer: k.number, Seq: k.done} }

// give lets it have a batch more to ask for.
func (k *client) give(l []api.Record) {
	l = cloned(l)
	for i := range l {
		l[i].Offset = i
	}
	k.batches = append(k.batches, l)
}

// cloned are records in memory of their own.
func cloned(l []api.Record) []api.Record {
	var out []api.Record
	for _, r := range l {
		r.Key, r.Value = strings.Clone(r.Key), strings.Clone(r.Value)
		out = append(out, r)
	}
	return out
}

// request is what it asks the node that it believes in; false: no message has such records.
func (k *client) request() (string, bool) {
	if k.asks == nil {
		k.asks = make([]string, k.nodes)
	}
	if k.asks[k.node] == "" {
		s, e := wire.Bytes(api.Message{
			Kind: api.MsgAppend, From: firstClient + k.number, To: k.node,
			Id: k.id(), Body: k.batches[0],
		})
		if e != api.OK {
			return "", false
		}
		k.asks[k.node] = s
	}
	return k.asks[k.node], true
}

// goOn lets it go on to the next batch.
func (k *client) goOn() {
	k.batches[0] = nil // its records are not kept
	k.batches = k.batches[1:]
	k.done++
	k.asks = nil
	k.refused = 0
	k.late = false
}

// learn lets it believe in the primary of the latest view that it was told of or, where the node in which it believes says that it is none, in the next one.
func (k *client) learn(m api.Message) {
	k.silent = 0
	fromPrimary := m.Err != api.ErrPrimary
	switch {
	case m.View > k.view || m.View == k.view && fromPrimary:
		k.view = m.View
		k.node = m.View % k.nodes
	case m.From == k.node && !fromPrimary:
		k.node = (k.node + 1) % k.nodes
	}
}

// doubt lets it believe in another node, if it was told nothing since its clock ticked the last time: one message may be lost, more of them rather not.
func (k *client) doubt() {
	if k.silent > 0 {
		k.node = (k.node + 1) % k.nodes
	}
	k.silent++
}

// ask lets a client ask for the batch that it waits for. What no message has is answered at once.
func (c *Cluster) ask(k *client) {
	for k.waits() {
		s, ok := k.request()
		if ok {
			c.under.send(s)
			return
		}
		c.note(k, api.Ack{Err: api.ErrLarge})
		k.goOn()
	}
}

// note notes an answer to what a client waits for.
func (c *Cluster) note(k *client, a api.Ack) {
	a.Step = c.steps
	a.Id = k.id()
	c.acks = append(c.acks, a)
}

// answered takes an answer that a client gets.
func (c *Cluster) answered(k *client, m api.Message) {
	if !k.waits() || m.Id != k.id() {
		return // it is about a batch that was answered for good
	}
	k.learn(m)
	switch m.Err {
	case api.OK:
		c.note(k, api.Ack{Base: m.Base, Count: m.End - m.Base})
		k.goOn()
	case api.ErrLarge:
		c.note(k, api.Ack{Err: m.Err})
		k.goOn()
	default:
		c.note(k, api.Ack{Err: m.Err})
		if k.refused++; k.refused > mostRefused {
			k.late = true
			return
		}
	}
	c.ask(k)
}

// askLate lets those ask again, at a step's end, that were refused too often to ask at once.
func (c *Cluster) askLate() {
	for _, k := range c.clients {
		k.refused = 0
		if k.late {
			k.late = false
			c.ask(k)
		}
	}
}

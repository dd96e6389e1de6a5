package replica

import (
	"math"

	"postroad/api"
	"postroad/batch"
)

// What layer 15 tells of a batch that is asked for.
const (
	isCommitted = 1 + iota
	isStanding
	isNew
)

// onAppend does what a client asks for.
func (n *Node) onAppend(m api.Message) []api.Message {
	if !n.atWork() {
		return n.refuse(m, api.ErrPrimary)
	}
	b, state, e := n.table.Ask(m.Id, m.Body, n.notes.commit)
	if e == api.ErrArg {
		e = api.ErrLarge // numbers that no batch can have: it is no use to ask again
	}
	if e != api.OK {
		return n.refuse(m, e)
	}
	var out []api.Message
	switch state {
	case isCommitted:
		return []api.Message{n.answer(m.From, m.Id, b)}
	case isStanding:
		// What was told of it may be lost: the others are asked anew how much stands.
		out = n.toAll(n.message(api.MsgCommit))
	case isNew:
		out, e = n.begun(m)
		if e != api.OK {
			return n.refuse(m, e)
		}
	}
	if e := n.table.Wait(m.Id, m.From); e != api.OK {
		return n.refuse(m, e)
	}
	return out
}

// begun appends what a client asks for, and are the messages that tell the others.
func (n *Node) begun(m api.Message) ([]api.Message, api.Errno) {
	b := api.Batch{
		Base:     n.log.End(),
		Count:    len(m.Body),
		View:     n.notes.view,
		Producer: m.Id.Producer,
		Seq:      m.Id.Seq,
		Records:  m.Body,
	}
	for i := range b.Records {
		b.Records[i].Offset = b.Base + i
	}
	s, e := batch.Bytes(b, n.config.Codec)
	if e != api.OK {
		return nil, api.ErrLarge
	}
	if !n.canNote() || !n.keep(b, s) { // what could not be noted as committed would be waited for without end
		return nil, api.ErrDisk
	}
	tell := n.message(api.MsgPrepare)
	tell.Log = []string{s}
	return n.toAll(tell), api.OK
}

// answer tells a client which offsets a batch has.
func (n *Node) answer(client int, id api.Id, b api.Batch) api.Message {
	return api.Message{
		Kind: api.MsgAnswer, From: n.id, To: client,
		View: n.notes.view, Id: id, Base: b.Base, End: endOf(b),
	}
}

// refuse tells a client why not.
func (n *Node) refuse(m api.Message, e api.Errno) []api.Message {
	return []api.Message{n.refusal(m.From, m.Id, e)}
}

func (n *Node) refusal(client int, id api.Id, e api.Errno) api.Message {
	return api.Message{
		Kind: api.MsgAnswer, From: n.id, To: client,
		View: n.notes.view, Id: id, Err: e,
	}
}

// answers are those to all who wait for what is committed.
func (n *Node) answers() []api.Message {
	var out []api.Message
	for _, a := range n.table.Done(n.notes.commit) {
		out = append(out, n.answer(a.Step, a.Id, api.Batch{Base: a.Base, Count: a.Count}))
	}
	return out
}

// dismiss lets nobody wait any more: another node will know what becomes of the batches.
func (n *Node) dismiss() []api.Message {
	var out []api.Message
	for _, a := range n.table.Done(math.MaxInt) {
		out = append(out, n.refusal(a.Step, a.Id, api.ErrPrimary))
	}
	return out
}

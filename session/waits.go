package session

import (
	"slices"

	"postroad/api"
)

// wait is somebody who waits for a batch. The batch is noted as long as somebody waits for it.
type wait struct {
	id  api.Id
	who int
}

// Wait lets somebody wait for a batch.
func (t *Table) Wait(id api.Id, who int) api.Errno {
	if _, e := t.Find(id); e != api.OK {
		return e
	}
	one := wait{id: id, who: who}
	if slices.Contains(t.waits, one) {
		return api.OK
	}
	if t.full() {
		return api.ErrQueue
	}
	t.waits = append(t.waits, one)
	return api.OK
}

// Done are all that wait for what is committed: they wait no more.
func (t *Table) Done(committed int) []api.Ack {
	if !t.given() {
		return nil
	}
	var acks []api.Ack
	var left []wait
	for _, one := range t.waits {
		b := t.batches[one.id]
		if stateOf(b, committed) != stateCommitted {
			left = append(left, one)
			continue
		}
		acks = append(acks, api.Ack{Step: one.who, Id: one.id, Base: b.Base, Count: b.Count})
	}
	t.waits = left
	return acks
}

// Waiting is how many wait.
func (t *Table) Waiting() int {
	if !t.given() {
		return 0
	}
	return len(t.waits)
}

// full tells whether as many wait as may.
func (t *Table) full() bool { return len(t.waits) >= t.queue }

// dropForgotten lets nobody wait for a batch that is not noted any more.
func (t *Table) dropForgotten() {
	t.waits = slices.DeleteFunc(t.waits, func(one wait) bool {
		_, noted := t.batches[one.id]
		return !noted
	})
}

package cluster_test

import (
	"testing"

	"postroad/api"
)

// DOC.md's examples 1 to 3: acked at Base 0, when one other node has synced it; behind the primary's end another one tells both records, and the batch is there once.
func TestExamples1To3(t *testing.T) {
	s := newScript(t, config(3))
	s.submit(0, body("a", "1", "b", "2"))
	s.do(api.Step{Kind: api.StepTwice}) // it is asked for twice, the second time at its end
	s.deliver(1)
	s.crash(2)
	s.deliver(100)
	s.checkAcked(0, 0, 0, 2)
	want(t, "acks", len(s.x.Acks()), 1)
	s.start(2)
	s.round()
	s.crash(0)
	for range s.rounds() {
		s.round()
	}
	s.submit(0, body("c", "3"))
	for range s.rounds() {
		s.round()
	}
	s.checkAcked(0, 1, 2, 1)
	for node := 1; node < 3; node++ {
		want(t, "told", told(s.fetch(node, 0, 9)), "0a=1 1b=2 2c=3 ")
	}
}

// DOC.md's example 4: the primary's power goes ahead of the ack: the client asks again, and the batch is there once.
func TestExample4(t *testing.T) {
	for arrived := range 4 {
		s := newScript(t, config(3))
		s.submit(0, body("a", "1"))
		s.deliver(1 + arrived)
		want(t, "acks", len(s.x.Acks()), 0)
		s.crash(0)
		s.dropAll()
		for range s.rounds() {
			s.round()
		}
		s.checkAcked(0, 0, 0, 1)
		s.start(0)
		s.round()
		for node := range 3 {
			want(t, "told", told(s.fetch(node, 0, 9)), "0a=1 ")
		}
	}
}

// DOC.md's example 5: two of three nodes down: nothing is acked; one of them back: all is.
func TestExample5(t *testing.T) {
	s := newScript(t, config(3))
	s.crash(1)
	s.crash(2)
	s.submit(0, body("a", "1"))
	s.submit(1, body("b", "2"))
	for range 2 * s.rounds() {
		s.round()
	}
	for _, a := range s.x.Acks() {
		if a.Err == api.OK {
			t.Error("acked:", a)
		}
	}
	want(t, "lacking", s.lacking(), 2)
	s.start(2)
	for range s.rounds() {
		s.round()
	}
	s.checkAcked(0, 0, 0, 1)
	s.checkAcked(1, 0, 1, 1)
}

// DOC.md's example 6: a=1, b=2, a=3 compacted: b=2 at 1, a=3 at 2; a node to which it is told by one that compacted has the same.
func TestExample6(t *testing.T) {
	c := config(3)
	c.Segment = 1
	s := newScript(t, c)
	s.crash(2)
	for _, l := range [][]api.Record{body("a", "1"), body("b", "2"), body("a", "3"), body("c", "4")} {
		s.submit(0, l)
		s.deliver(100)
	}
	s.do(api.Step{Kind: api.StepCompact, At: 0})
	want(t, "told", told(s.fetch(0, 0, 9)), "1b=2 2a=3 3c=4 ")
	s.start(2)
	s.round()
	s.round()
	want(t, "told", told(s.fetch(2, 0, 9)), "1b=2 2a=3 3c=4 ")
	want(t, "told", told(s.fetch(1, 0, 9)), "0a=1 1b=2 2a=3 3c=4 ")
	s.checkAsks()
	s.checkKeeps()
}

// DOC.md's example 10, as far as this layer does it: a batch, a hundred calm rounds, and a fetch.
func TestExample10(t *testing.T) {
	s := newScript(t, api.Config{Nodes: 3, Clients: 1, Queue: 4, Segment: 1000, Disk: 100000, Codec: api.CodecDeflate, Patience: 3})
	s.submit(0, body("k", "v"))
	for range 100 {
		s.round()
	}
	want(t, "told", told(s.fetch(0, 0, 9)), "0k=v ")
	want(t, "Steps", s.x.Steps(), 1+100*5+1)
}

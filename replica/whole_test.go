package replica_test

import (
	"slices"
	"testing"

	"postroad/api"
)

// DOC.md's examples 1 to 4: acked when one other node has synced it; the same Base at any time; and a primary's power that goes behind the ack, and ahead of it.
func TestExamples1To4(t *testing.T) {
	for _, acked := range []bool{true, false} {
		s := newSim(t, config(3))
		two := body("a", "1", "b", "2")
		s.ask(100, 0, id(0, 0), two)
		s.arrive(0)
		if acked {
			s.settle()
			s.checkAnswer(100, api.OK, 0, 2)
		}
		s.under = nil
		s.crash(0, nil)
		for range rounds(s.c) {
			s.round()
		}
		at := s.checkWorks()
		s.ask(100, at, id(0, 0), two)
		s.settle()
		s.checkAnswer(100, api.OK, 0, 2)
		want(t, "records", len(s.committed(at)), 2)
		s.start(0)
		s.round()
		s.ask(100, 0, id(0, 0), two)
		s.checkAnswer(100, api.ErrPrimary, 0, 0)
		want(t, "Commit", s.nodes[0].Commit(), 2)
		s.checkAll()
	}
}

// DOC.md's example 5: two of three nodes down: nothing is acked; one of them back: all is.
func TestExample5(t *testing.T) {
	s := newSim(t, config(3))
	s.crash(1, nil)
	s.crash(2, nil)
	s.ask(100, 0, id(0, 0), body("a", "1"))
	s.ask(101, 0, id(1, 0), body("b", "2"))
	for range 2 * rounds(s.c) {
		s.round()
	}
	want(t, "answers", len(s.answers), 0)
	s.start(2)
	for range rounds(s.c) {
		s.round()
	}
	s.checkAnswer(100, api.OK, 0, 1)
	s.checkAnswer(101, api.OK, 1, 2)
}

// DOC.md's example 7: a node back behind a crash with half a batch in its file: it is cut off, and told anew.
func TestExample7(t *testing.T) {
	s := newSim(t, config(3))
	s.ask(100, 0, id(0, 0), body("a", "1"))
	s.settle()
	s.crash(2, nil)
	s.ask(100, 0, id(0, 1), body("b", "2"))
	s.settle()
	// What a node leaves is synced: so another one's batch is broken off in its file.
	name := slices.DeleteFunc(s.disks[1].Names(), func(name string) bool { return name[:3] != "seg" })[0]
	at := s.disks[2].Size(name)
	b, e := s.disks[1].Read(name, at, 20)
	want(t, "Read", e, api.OK)
	s.disks[2].Append(name, b)
	s.crash(2, nil)
	s.disks[2].Append(name, b)
	s.start(2)
	want(t, "End", s.nodes[2].End(), 1)
	s.round()
	want(t, "Commit", s.nodes[2].Commit(), 2)
	s.checkAll()
}

// DOC.md's example 8: a queue of one, two clients: one is told ErrQueue, and asks again.
func TestExample8(t *testing.T) {
	c := config(3)
	c.Queue = 1
	s := newSim(t, c)
	s.ask(100, 0, id(0, 0), body("a", "1"))
	s.ask(101, 0, id(1, 0), body("b", "2"))
	s.checkAnswer(101, api.ErrQueue, 0, 0)
	s.settle()
	s.checkAnswer(100, api.OK, 0, 1)
	s.ask(101, 0, id(1, 0), body("b", "2"))
	s.settle()
	s.checkAnswer(101, api.OK, 1, 2)
}

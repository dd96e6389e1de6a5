package replica_test

import (
	"strconv"
	"testing"

	"postroad/api"
)

// inChaos runs what is done by chance, for so many seeds.
func inChaos(t *testing.T, seeds int, do func(x *chaos)) {
	for seed := range seeds {
		t.Run(strconv.Itoa(seed), func(t *testing.T) {
			t.Parallel()
			c := config(3 + 2*(seed%3))
			c.Patience = 1 + seed%4
			c.Segment = []int{1, 100, 500, 5000}[seed%4]
			c.Codec = []int{api.CodecNone, api.CodecLz}[seed/3%2] // the third one takes its time
			do(newChaos(t, c, int64(seed)))
		})
	}
}

// Rp2, Rp3, P1 to P4: whatever is lost, doubled and late, and wherever the power goes, there is one log, and what was answered by OK is in it.
func TestRp2Steps(t *testing.T) {
	inChaos(t, 24, func(x *chaos) {
		for range 8 {
			x.steps(200)
		}
	})
}

// Rp2: the same by the codec that takes its time.
func TestRp2Deflate(t *testing.T) {
	c := config(3)
	c.Codec = api.CodecDeflate
	x := newChaos(t, c, 1)
	for range 5 {
		x.steps(100)
		x.episode()
		x.turn()
	}
	x.calm(2)
	x.checkAll()
}

// Rp2, Rp3: the same through many views.
func TestRp2Episodes(t *testing.T) {
	inChaos(t, 24, func(x *chaos) {
		for range 30 {
			x.episode()
		}
	})
}

// Rp2, Rp3: the same where each majority goes on without others, and where what was sent many views ago arrives.
func TestRp2Turns(t *testing.T) {
	inChaos(t, 18, func(x *chaos) {
		x.compact = x.seed%2 == 0
		for i := range 80 {
			x.turn()
			if i%4 == 3 {
				x.checkMost()
			}
		}
	})
}

// Rp3: what a node told in an earlier view does not count in a later one of the same primary: neither by a message that is late, nor by what the primary remembers.
func TestRp3EarlierViews(t *testing.T) {
	for _, late := range []bool{false, true} {
		s := newSim(t, config(5))
		s.side = []int{0, 0, 1, 1, 1}
		s.ask(100, 0, id(0, 0), body("a", "1", "b", "2", "c", "3"))
		var told []string
		for len(s.under) > 0 {
			if m := messageOf(t, s.under[0]); m.Kind == api.MsgOk && m.End == 3 {
				told = append(told, s.under[0])
			}
			s.arrive(0)
		}
		want(t, "told", len(told), 1)
		if late {
			s.crash(0, nil)
			s.start(0)
		}
		// Others go on, up to the view that is the first one's again.
		s.only(2, 2, 3, 4)
		s.only(3, 1, 3, 4)
		s.only(4, 1, 2, 4)
		s.only(5, 0, 2, 3)
		want(t, "End", s.nodes[0].End(), 0)
		s.side = []int{0, 1, 1, 0, 1}
		s.answers = nil
		s.ask(101, 0, id(1, 0), body("d", "4"))
		s.settle()
		if late {
			s.under = told
			s.side[1] = 0
			s.settle()
			s.side[1] = 1
		}
		want(t, "End", s.nodes[3].End(), 1)
		s.checkUnanswered(101)
		want(t, "Commit", s.nodes[0].Commit(), 0)
		s.side[2] = 0
		s.round()
		s.checkAnswer(101, api.OK, 0, 1)
	}
}

// Rp2: one id, asked for with other records in another view, at the same offset: what no majority had is no more.
func TestRp2SameId(t *testing.T) {
	for _, crashes := range []bool{false, true} {
		s := newSim(t, config(3))
		s.side[0] = 1
		s.ask(100, 0, id(0, 0), body("a", "1", "b", "2"))
		s.ask(100, 0, id(0, 1), body("c", "3"))
		s.only(1, 1, 2)
		s.ask(101, 1, id(0, 0), body("a", "4", "b", "5"))
		s.settle()
		s.checkAnswer(101, api.OK, 0, 2)
		if crashes {
			s.crash(0, nil)
			s.start(0)
		}
		want(t, "End", s.nodes[0].End(), 3)
		s.side[0] = 0
		s.round()
		want(t, "End", s.nodes[0].End(), 2)
		want(t, "Commit", s.nodes[0].Commit(), 2)
		s.checkAll()
		s.ask(100, 1, id(0, 1), body("c", "3"))
		s.settle()
		s.checkAnswer(100, api.OK, 2, 3)
	}
}

// only lets no others than these nodes hear one another, until the primary of a view is at work.
func (s *sim) only(view int, nodes ...int) {
	s.Helper()
	for node := range s.side {
		s.side[node] = 1 + node
	}
	for _, node := range nodes {
		s.side[node] = 0
	}
	at := s.nodes[view%s.c.Nodes]
	for range rounds(s.c) {
		if s.round(); at.Primary() && at.View() == view {
			return
		}
	}
	s.Fatal("not at work:", view)
}

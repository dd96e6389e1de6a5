package replica_test

import (
	"slices"
	"strconv"
	"testing"

	"postroad/api"
)

// Rp4: a node has patience for so many ticks with a primary that it does not hear, in each view anew; then, in the same round, the next one that runs is at work, with all that stood, and has it committed.
func TestRp4Patience(t *testing.T) {
	for _, nodes := range []int{3, 5, 7} {
		for _, patience := range []int{1, 2, 5, 100} {
			c := config(nodes)
			c.Patience = patience
			s := newSim(t, c)
			s.ask(100, 0, id(0, 0), body("k", "v"))
			s.settle()
			s.round()
			for down := range nodes / 2 {
				s.crash(down, nil)
				for node := range s.nodes {
					if s.runs(node) {
						want(t, "View", s.nodes[node].View(), down)
					}
				}
				for range patience {
					s.round()
				}
				want(t, "View", s.nodes[nodes-1].View(), down)
				// The next primary's power goes as well, as soon as its view is asked for.
				next := down + 1
				if next < nodes/2 {
					s.nodes[next] = nil
				}
				s.round()
				for _, node := range s.running() {
					want(t, "View", s.nodes[node].View(), next)
				}
				want(t, "Primary", s.primary() == next, next == nodes/2)
			}
			at := s.checkWorks()
			for _, node := range s.running() {
				want(t, "Commit", s.nodes[node].Commit(), 1)
			}
			s.ask(100, at, id(0, 0), body("k", "v"))
			s.checkAnswer(100, api.OK, 0, 1)
		}
	}
}

// Rp4: a view stays in which some do not hear the primary, while those who do are a majority: also if the others hear them all.
func TestRp4SomeDoNotHear(t *testing.T) {
	for _, nodes := range []int{3, 5, 7} {
		s := newSim(t, config(nodes))
		deaf := nodes / 2
		for range 20 {
			for node := range s.nodes {
				s.tick(node)
			}
			for len(s.under) > 0 {
				m := messageOf(t, s.under[0])
				if m.From == 0 && m.To <= deaf || m.To == 0 && m.From <= deaf {
					s.under = s.under[1:]
					continue
				}
				s.arrive(0)
			}
		}
		if !s.allIn(0) {
			t.Error("left, of nodes:", nodes)
		}
	}
}

// Rp4: a node that was cut off from all others ends no view when it is back, and hears at its own next tick what it lacks.
func TestRp4Back(t *testing.T) {
	s := newSim(t, config(3))
	for lost := 1; lost < 3; lost++ {
		s.side[lost] = 1
		s.ask(100, 0, id(lost, 0), body("k", "v"))
		for range 50 {
			s.round()
		}
		want(t, "Commit", s.nodes[lost].Commit(), lost-1)
		s.side[lost] = 0
		s.tick(lost)
		s.settle()
		want(t, "Commit", s.nodes[lost].Commit(), lost)
		s.round()
		if !s.allIn(0) {
			t.Error("left:", lost)
		}
	}
}

// Rp4: a view stays also where nodes that had lost patience tick one by one, and all messages arrive behind each tick, in whatever order the nodes do.
func TestRp4OneByOne(t *testing.T) {
	inChaos(t, 30, func(x *chaos) {
		for view := range 7 {
			x.side[view%x.c.Nodes] = 1
			for range 5 {
				for node := range x.c.Nodes {
					x.tick(node)
					x.under = nil
				}
			}
			x.side[view%x.c.Nodes] = 0
			for range 3 {
				for _, node := range x.Perm(x.c.Nodes) {
					x.tick(node)
					x.settle()
				}
			}
			if !x.allIn(view) {
				x.Fatal("left:", view)
			}
			x.toNextView(view % x.c.Nodes)
		}
	})
}

// Rp4: what is lost on the way to a view that begins is sent again at the next ticks.
func TestRp4LostOnTheWay(t *testing.T) {
	for _, kind := range []int{api.MsgChange, api.MsgDo, api.MsgAsk, api.MsgState, api.MsgStart, api.MsgOk} {
		t.Run(strconv.Itoa(kind), func(t *testing.T) {
			s := newSim(t, config(3))
			s.side[1] = 1 // so the next primary lacks what is committed
			s.ask(100, 0, id(0, 0), body("k", "v"))
			s.settle()
			s.crash(0, nil)
			s.side[1] = 0
			for range s.c.Patience {
				s.round()
			}
			s.tick(1)
			s.tick(2)
			if kind == api.MsgChange {
				s.under = nil
			}
			for len(s.under) > 0 {
				if m := messageOf(s, s.under[0]); m.Kind == kind {
					s.under = s.under[1:]
					continue
				}
				s.arrive(0)
			}
			s.round()
			want(t, "primary", s.checkWorks(), 1)
			want(t, "View", s.nodes[1].View(), 1)
			s.round()
			for _, node := range s.running() {
				want(t, "Commit", s.nodes[node].Commit(), 1)
			}
			if l := s.committed(1); !slices.Equal(l, s.committed(2)) || len(l) != 1 {
				t.Error(l)
			}
		})
	}
}

// Rp4: of a node that leaves a view, and all that it says then is lost, the others hear at its next tick.
func TestRp4LeftUnheard(t *testing.T) {
	s := newSim(t, config(5))
	s.crash(0, nil)
	for range s.c.Patience {
		s.round()
	}
	for node := 1; node < 5; node++ {
		s.tick(node)
	}
	s.settleBut(func(m api.Message) bool { return m.View == 1 || m.Err != api.OK && m.To != 4 })
	for node := 1; node < 5; node++ {
		want(t, "View", s.nodes[node].View(), node/4)
	}
	s.tick(4)
	s.settle()
	want(t, "primary", s.checkWorks(), 1)
}

package replica_test

import (
	"slices"
	"testing"

	"postroad/api"
)

// calm lets so many nodes run, any of them, and as many rounds go by as the chapter gives: then a primary is at work, and has all committed.
func (x *chaos) calm(running int) int {
	x.Helper()
	x.side = make([]int, x.c.Nodes)
	for i, node := range x.Perm(x.c.Nodes) {
		switch {
		case i < running && !x.runs(node):
			x.start(node)
		case i >= running && x.runs(node):
			x.crash(node, []int{x.Intn(9), x.Intn(9), x.Intn(9)})
		}
	}
	for range rounds(x.c) {
		x.round()
	}
	return x.checkWorks()
}

// Rp4: whatever was, behind so many rounds of a majority a primary is at work, and has all committed.
func TestRp4Majority(t *testing.T) {
	inChaos(t, 18, func(x *chaos) {
		for i := range 8 {
			if i%2 == 0 {
				x.steps(150)
			} else {
				x.episode()
				x.episode()
			}
			at := x.calm(x.c.Nodes/2 + 1 + x.Intn(x.c.Nodes/2+1))
			x.checkAll()
			for _, node := range x.running() {
				n := x.nodes[node]
				if n.View() != x.nodes[at].View() || n.Commit() != x.nodes[at].Commit() {
					x.Error("not as its primary:", node, n.View(), n.Commit())
				}
			}
		}
	})
}

// Rp4: the same behind all that was acked: nothing of it is lost.
func TestRp4AllAcked(t *testing.T) {
	inChaos(t, 16, func(x *chaos) {
		x.compact = false
		for range 6 {
			x.episode()
			x.steps(100)
			x.checkKept(x.calm(x.c.Nodes/2 + 1))
		}
	})
}

// checkKept: without compaction, each record that was acked is at its offset, at a node that has all committed; and each batch is there once.
func (s *sim) checkKept(node int) {
	s.Helper()
	l := s.committed(node)
	if len(l) != s.nodes[node].Commit() {
		s.Fatal("offsets without records:", len(l), s.nodes[node].Commit())
	}
	for i, base := range s.acked {
		isAcked := func(right []api.Record) bool { return s.isTold(base, right) && base+len(right) <= len(l) }
		if !slices.ContainsFunc(s.asked[i], isAcked) {
			s.Fatal("not as it was acked:", i, base)
		}
	}
}

// Rp4: a view stays whose primary is at work, while all nodes run and hear it; asks and compaction do not matter.
func TestRp4ViewStays(t *testing.T) {
	inChaos(t, 24, func(x *chaos) {
		for range 4 {
			x.episode()
			at := x.calm(x.c.Nodes)
			view := x.nodes[at].View()
			for range 8 * x.c.Patience {
				x.someAsk()
				x.round()
				x.nodes[x.Intn(x.c.Nodes)].Compact()
				for _, n := range x.nodes {
					want(x, "View", n.View(), view)
					want(x, "Commit", n.Commit(), x.nodes[at].End())
				}
				want(x, "Primary", x.nodes[at].Primary(), true)
			}
		}
	})
}

// Rp4: a view stays from the first round on in which all clocks tick and all messages arrive, however long nodes had not heard their primary ahead of that.
func TestRp4ViewStaysThough(t *testing.T) {
	inChaos(t, 30, func(x *chaos) {
		for view := range 10 {
			at := view % x.c.Nodes
			for range 6 * (x.c.Patience + 2) {
				node := x.Intn(x.c.Nodes)
				x.tick(node)
				// What leads out of the view is lost, as is most of what the primary says.
				x.under = slices.DeleteFunc(x.under, func(s string) bool {
					m := messageOf(x, s)
					return m.From == at && x.Intn(9) > 0 || m.View > view
				})
				for range x.Intn(2) * len(x.under) {
					if m := messageOf(x, x.under[0]); m.Kind == api.MsgChange && m.Err != api.OK {
						x.under = append(x.under[1:], x.under[0])
						continue
					}
					x.arrive(0)
				}
			}
			if !x.allIn(view) {
				x.Fatal("left:", view)
			}
			for range 3 * x.c.Patience {
				x.round()
				if !x.allIn(view) {
					x.Fatal("left:", view)
				}
			}
			x.toNextView(at)
		}
	})
}

// allIn tells whether all nodes are in a view, and its primary at work.
func (s *sim) allIn(view int) bool {
	for _, n := range s.nodes {
		if n.View() != view {
			return false
		}
	}
	return s.nodes[view%s.c.Nodes].Primary()
}

// toNextView cuts the primary off until the others are in the next view, and lets it follow.
func (s *sim) toNextView(primary int) {
	s.Helper()
	view := s.nodes[primary].View()
	s.side[primary] = 1
	for range s.c.Patience + 3 {
		s.round()
	}
	s.side[primary] = 0
	s.round()
	if !s.allIn(view + 1) {
		s.Fatal("not in the next view:", view+1)
	}
}

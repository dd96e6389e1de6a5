package cluster_test

import (
	"math"
	"math/rand"
	"slices"
	"testing"

	"postroad/api"
)

// calm lets so many nodes run, and calm rounds go by until all is answered, and committed at all nodes that run: at most as many as layer 19 says.
func (s *script) calm(r *rand.Rand, running int) {
	s.Helper()
	for s.x.Under() > 1000 {
		s.drop(r.Intn(1 << 20))
	}
	for i, node := range r.Perm(s.c.Nodes) {
		if i < running {
			s.try(api.Step{Kind: api.StepStart, At: node})
		} else {
			s.try(api.Step{Kind: api.StepCrash, At: node})
		}
	}
	for n := s.rounds(); !s.isCalm(); n-- {
		if n == 0 {
			s.Fatal("not answered, or not committed:", s.lacking(), state(s.x, s.c))
		}
		s.round()
	}
}

// isCalm tells whether all is answered, and all nodes that run have all of it, committed.
func (s *script) isCalm() bool {
	end := 0
	for node := range s.c.Nodes {
		end = max(end, s.x.End(node))
	}
	for node := range s.c.Nodes {
		if s.x.Runs(node) && s.x.Commit(node) != end {
			return false
		}
	}
	return s.lacking() == 0
}

// noCompact are steps by chance without compaction.
func noCompact(r *rand.Rand, c api.Config) api.Step {
	s := someStep(r, c)
	for s.Kind == api.StepCompact {
		s = someStep(r, c)
	}
	return s
}

// Cl2, Cl3, P1 to P5: whatever was lost, doubled and late, and whichever nodes crashed, there is one log; behind a calm all is answered, all nodes have the same, and what was acked is there, or records of its keys behind it.
func TestCl2Chaos(t *testing.T) {
	inScripts(t, 40, func(t *testing.T, c api.Config, r *rand.Rand) {
		c.Disk = 1 << 20
		s := newScript(t, c)
		for i := range 4 {
			for range 700 {
				s.try(someStep(r, c))
			}
			s.checkAsks()
			s.calm(r, c.Nodes/2+1+r.Intn(c.Nodes/2+1))
			if i == 3 {
				s.calm(r, c.Nodes)
			}
		}
		s.fetchAll()
		s.checkAsks()
		s.checkKeeps()
	})
}

// Cl2, Cl3, P2: without compaction nothing is left out: what was acked is at its offsets, and all else is what else was asked for.
func TestCl3Stays(t *testing.T) {
	inScripts(t, 30, func(t *testing.T, c api.Config, r *rand.Rand) {
		c.Disk = 1 << 20
		s := newScript(t, c)
		for range 3 {
			for range 700 {
				s.try(noCompact(r, c))
			}
			s.calm(r, c.Nodes/2+1)
		}
		s.calm(r, c.Nodes)
		all := s.fetchAll()
		if len(all) != s.x.Commit(0) {
			t.Fatal("offsets without records:", len(all), s.x.Commit(0))
		}
		acks, records := s.batches()
		sum := 0
		for i, a := range acks {
			if !slices.Equal(all[a.Base:a.Base+a.Count], records[i]) {
				t.Fatal("not as it was asked for:", a, told(records[i]))
			}
			sum += a.Count
		}
		want(t, "all of it was acked, each batch once", sum, len(all))
		s.checkAsks()
		s.checkKeeps()
	})
}

// Cl2: the same where disks become full: not all is answered, but what is, is so.
func TestCl2FullDisks(t *testing.T) {
	inScripts(t, 30, func(t *testing.T, c api.Config, r *rand.Rand) {
		c.Disk = 1000 + r.Intn(1500)
		s := newScript(t, c)
		for range 5 {
			for range 500 {
				s.try(someStep(r, c))
			}
			for range r.Intn(30) {
				s.round()
			}
			s.checkAsks()
		}
		s.startAll()
		for range 50 {
			s.round()
		}
		s.fetchAll()
		s.checkAsks()
		same := true
		for node := range c.Nodes {
			same = same && s.x.Commit(node) == s.x.Commit(0)
		}
		if same {
			s.checkKeeps()
		}
	})
}

// Cl2: the same where all nodes crash again and again, each keeping what else survives, and messages are old.
func TestCl2Crashes(t *testing.T) {
	inScripts(t, 30, func(t *testing.T, c api.Config, r *rand.Rand) {
		c.Disk = 1 << 20
		s := newScript(t, c)
		for range 60 {
			for range 1 + r.Intn(c.Nodes) {
				node := r.Intn(c.Nodes)
				s.try(api.Step{Kind: api.StepCrash, At: node, Keep: []int{r.Intn(99), r.Intn(99), r.Intn(99), r.Intn(99)}})
			}
			for range r.Intn(10) {
				s.do(api.Step{Kind: api.StepTwice, N: r.Intn(1000)})
			}
			for range 1 + r.Intn(c.Nodes) {
				s.try(api.Step{Kind: api.StepStart, At: r.Intn(c.Nodes)})
			}
			s.submit(r.Intn(c.Clients), someBody(r))
			for range r.Intn(2*c.Patience + 5) {
				s.some(r, 30)
			}
			s.try(api.Step{Kind: api.StepFetch, At: r.Intn(c.Nodes), N: r.Intn(20), Max: r.Intn(99)})
			s.try(api.Step{Kind: api.StepCompact, At: r.Intn(c.Nodes)})
		}
		s.checkAsks()
		s.calm(r, c.Nodes)
		s.fetchAll()
		s.checkAsks()
		s.checkKeeps()
	})
}

// some is a round in which messages are late, and some of them are lost.
func (s *script) some(r *rand.Rand, messages int) {
	s.Helper()
	for node := range s.c.Nodes {
		s.try(api.Step{Kind: api.StepTick, At: node})
	}
	s.tickClient(r.Intn(s.c.Clients))
	for range 3 {
		s.do(api.Step{Kind: api.StepDeliver, N: r.Intn(3), Max: r.Intn(messages)})
		s.do(api.Step{Kind: api.StepDrop, N: r.Intn(1000)})
	}
	if r.Intn(9) == 0 {
		s.do(api.Step{Kind: api.StepDeliver, N: r.Intn(1000), Max: math.MaxInt})
	}
}

// P5: as soon as the longest patience, the most clients and the shortest queue let, and as late as a thousand messages under way do.
func TestP5Calm(t *testing.T) {
	for _, nodes := range []int{3, 5, 7} {
		for _, patience := range []int{1, 100} {
			for _, clients := range []int{1, 16} {
				c := api.Config{Nodes: nodes, Clients: clients, Queue: 1, Segment: 1000, Disk: 1 << 24, Patience: patience}
				r := rand.New(rand.NewSource(int64(nodes + patience + clients)))
				s := newScript(t, c)
				for client := range clients {
					s.submit(client, someBody(r))
					s.submit(client, body("k", "v"))
				}
				s.deliver(r.Intn(100))
				for s.x.Under() < 1000 {
					s.try(api.Step{Kind: api.StepTick, At: r.Intn(nodes)})
					s.tickClient(r.Intn(clients))
					s.do(api.Step{Kind: api.StepTwice, N: r.Intn(1000)})
					s.do(api.Step{Kind: api.StepDeliver, N: r.Intn(1000), Max: r.Intn(2)})
				}
				s.calm(r, nodes/2+1)
				s.calm(r, nodes)
				s.fetchAll()
				s.checkAsks()
				s.checkKeeps()
			}
		}
	}
}

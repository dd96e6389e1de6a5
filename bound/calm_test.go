package bound_test

import (
	"math/rand"
	"slices"
	"strconv"
	"testing"

	"postroad/api"
)

// mood is how often there are steps of each kind.
type mood struct {
	submit, deliver, drop, twice, tick, client, crash, start, compact, fetch int
	late                                                                     bool // what arrives is rarely what was sent first
}

var moods = []mood{
	{submit: 5, deliver: 60, tick: 12, client: 4, start: 3, compact: 1, fetch: 1},
	{submit: 5, deliver: 40, drop: 15, twice: 3, tick: 15, client: 5, start: 1, fetch: 1},
	{submit: 5, deliver: 40, twice: 15, tick: 15, client: 5, start: 1, fetch: 1, late: true},
	{submit: 3, deliver: 40, drop: 3, twice: 4, tick: 15, client: 4, crash: 8, start: 12, compact: 2, fetch: 2, late: true},
	{submit: 1, deliver: 2, twice: 3, tick: 60, client: 10, start: 1},
	{submit: 30, deliver: 50, tick: 3, client: 3, start: 1, compact: 3},
	{deliver: 10, drop: 70, tick: 20, client: 5, crash: 1, start: 1},
	{submit: 10, deliver: 90, tick: 5, client: 5, crash: 2, start: 3, compact: 10, fetch: 5},
}

// kind is one by chance.
func (m mood) kind(r *rand.Rand) int {
	often := []int{m.submit, m.deliver, m.drop, m.twice, m.tick, m.client, m.crash, m.start, m.compact, m.fetch}
	all := 0
	for _, n := range often {
		all += n
	}
	k := r.Intn(all)
	for kind, n := range often {
		if k < n {
			return kind + 1
		}
		k -= n
	}
	return 0
}

// step is one by chance.
func (m mood) step(r *rand.Rand, c api.Config) api.Step {
	one := api.Step{Kind: m.kind(r)}
	switch one.Kind {
	case api.StepSubmit:
		one.At, one.Records = r.Intn(c.Clients), someBody(r)
	case api.StepClient:
		one.At = r.Intn(c.Clients)
	case api.StepDeliver:
		if r.Intn(4) == 0 || m.late {
			one.N = r.Intn(2000)
		}
		if r.Intn(10) == 0 {
			one.Max = r.Intn(30)
		}
	case api.StepDrop, api.StepTwice:
		one.N = r.Intn(2000)
	case api.StepFetch:
		one.At, one.N, one.Max = r.Intn(c.Nodes), r.Intn(60), r.Intn(60)
	case api.StepCrash:
		one.At = r.Intn(c.Nodes)
		for range r.Intn(5) {
			one.Keep = append(one.Keep, r.Intn(200)-20)
		}
	default:
		one.At = r.Intn(c.Nodes)
	}
	return one
}

func someBody(r *rand.Rand) []api.Record {
	switch r.Intn(50) {
	case 0:
		return nil
	case 1:
		return []api.Record{{Key: "k", Value: "v", Gone: true}} // no message has it
	}
	var out []api.Record
	for range 1 + r.Intn(4) {
		one := api.Record{Key: "k" + strconv.Itoa(r.Intn(6)), Gone: r.Intn(8) == 0}
		if !one.Gone {
			one.Value = strconv.Itoa(r.Intn(1 << 30))
		}
		out = append(out, one)
	}
	return out
}

// mostBatches is for how many a disk has room, if each of them is a file of its own.
const mostBatches = api.MaxFiles - 16

// chaos does so many steps by chance, in one mood after another.
func (s *script) chaos(r *rand.Rand, steps int) {
	s.Helper()
	for steps > 0 {
		m := moods[r.Intn(len(moods))]
		for range min(steps, 20+r.Intn(200)) {
			one := m.step(r, s.c)
			if one.Kind != api.StepSubmit || len(s.said) < mostBatches {
				s.try(one)
			}
			steps--
		}
	}
	s.checkAsks()
}

// quiet lets no more than so many messages be under way.
func (s *script) quiet(r *rand.Rand, most int) {
	s.Helper()
	for s.x.Under() > most {
		s.do(api.Step{Kind: api.StepDrop, N: r.Intn(1 << 20)})
	}
}

// someConfig is one by chance, with disks that have room.
func someConfig(r *rand.Rand, nodes, codec int) api.Config {
	c := api.Config{Nodes: nodes, Clients: 1 + r.Intn(4), Queue: 1 + r.Intn(4), Disk: 1 << 22, Codec: codec, Patience: 1 + r.Intn(4)}
	c.Segment = []int{1, 150, 1000, 1 << 20}[r.Intn(4)]
	if r.Intn(8) == 0 {
		c.Clients, c.Queue = 16, []int{1, 5, 64}[r.Intn(3)]
	}
	if r.Intn(8) == 0 {
		c.Patience = []int{20, 100}[r.Intn(2)]
	}
	return c
}

// noises are so many records of keys and values by chance, the longest ones that there are.
func noises(n int) []api.Record {
	r := rand.New(rand.NewSource(int64(n)))
	var out []api.Record
	for range n {
		bytes := make([]byte, api.MaxKey+api.MaxValue)
		r.Read(bytes)
		out = append(out, api.Record{Key: string(bytes[:api.MaxKey]), Value: string(bytes[api.MaxKey:])})
	}
	return out
}

// some are so many of the nodes, by chance.
func some(r *rand.Rand, nodes, n int) []int { return r.Perm(nodes)[:n] }

// inScripts runs what is done by chance, for so many seeds: 3, 5 and 7 nodes, by each codec.
func inScripts(t *testing.T, seeds int, do func(s *script, r *rand.Rand)) {
	for seed := range seeds {
		t.Run(strconv.Itoa(seed), func(t *testing.T) {
			t.Parallel()
			r := rand.New(rand.NewSource(int64(seed)))
			do(newScript(t, someConfig(r, 3+2*(seed%3), seed/3%3)), r)
		})
	}
}

// Bo2, P1 to P6: whatever was lost, doubled and late, and however nodes crashed: with all nodes started all is answered within so many calm rounds, committed at all nodes, and there is one log.
func TestBo2Chaos(t *testing.T) {
	inScripts(t, 27, func(s *script, r *rand.Rand) {
		for range 3 {
			s.chaos(r, 800)
			s.quiet(r, 1000)
			s.startAll()
			s.calmDown()
			s.checkWhole()
		}
		want(s, "batches", len(s.said) > 20, true)
	})
}

// Bo2: the same with at most f nodes that do not run, others each time; in the end all of them do, and what the others answered stays.
func TestBo2Down(t *testing.T) {
	inScripts(t, 27, func(s *script, r *rand.Rand) {
		for range 3 {
			s.chaos(r, 800)
			s.quiet(r, 1000)
			s.startAll()
			down := some(r, s.c.Nodes, 1+r.Intn(s.c.Nodes/2))
			for _, node := range down {
				s.crash(node, r.Intn(99), r.Intn(99), r.Intn(99))
			}
			s.calmDown()
			for node := range s.c.Nodes {
				want(s, "runs", s.x.Runs(node), !slices.Contains(down, node))
			}
			s.checkAsks()
		}
		s.startAll()
		s.calmDown()
		s.checkWhole()
	})
}

// Bo2: at the edges: 1 and 16 clients, the shortest and the longest patience, the shortest queue, a thousand messages under way, and f nodes that do not run, the primaries of the next views among them.
func TestBo2Edges(t *testing.T) {
	for _, nodes := range []int{3, 5, 7} {
		for _, clients := range []int{1, 16} {
			for _, patience := range []int{1, 100} {
				c := api.Config{Nodes: nodes, Clients: clients, Queue: 1, Segment: 1000, Disk: 1 << 24, Codec: api.CodecLz, Patience: patience}
				r := rand.New(rand.NewSource(int64(nodes + clients + patience)))
				s := newScript(t, c)
				for client := range clients {
					s.submit(client, someBody(r))
					s.submit(client, body("k", "v"))
				}
				s.deliver(r.Intn(100))
				for s.x.Under() < 1000 {
					s.try(api.Step{Kind: api.StepTick, At: r.Intn(nodes)})
					s.do(api.Step{Kind: api.StepClient, At: r.Intn(clients)})
					s.do(api.Step{Kind: api.StepTwice, N: r.Intn(1000)})
					s.do(api.Step{Kind: api.StepDeliver, N: r.Intn(1000), Max: r.Intn(2)})
				}
				s.quiet(r, 1000)
				for node := range nodes / 2 {
					s.crash(node)
				}
				s.calmDown()
				s.startAll()
				s.calmDown()
				s.checkWhole()
			}
		}
	}
}

// Bo2: batches of nearly 2^16 bytes, some of which f nodes missed, and the longest ones that are under way, many times.
func TestBo2Large(t *testing.T) {
	noise := noises(15)
	for _, nodes := range []int{3, 5, 7} {
		c := api.Config{Nodes: nodes, Clients: 3, Queue: 2, Segment: 1 << 17, Disk: 1 << 24, Codec: api.CodecNone, Patience: 2}
		s := newScript(t, c)
		for node := range nodes / 2 {
			s.crash(nodes - 1 - node)
		}
		for i := range 60 {
			s.submit(i%3, noise)
		}
		s.calmDown()
		s.crash(0)
		for client := range 3 {
			s.submit(client, noise)
			for range 60 {
				s.do(api.Step{Kind: api.StepTwice, N: s.x.Under() - 1})
			}
		}
		s.startAll()
		s.calmDown()
		want(t, "End", s.x.Commit(nodes-1), 63*15)
		s.checkWhole()
	}
}

// Bo2: a node that was long alone, behind many ticks of its clock, and one whose clock went on among others that stood, hinder nobody.
func TestBo2Clocks(t *testing.T) {
	inScripts(t, 9, func(s *script, r *rand.Rand) {
		for alone := range s.c.Nodes {
			s.submit(r.Intn(s.c.Clients), body("k", strconv.Itoa(alone)))
			s.deliver(r.Intn(20))
			for range 300 {
				s.do(api.Step{Kind: api.StepTick, At: alone})
				if r.Intn(2) == 0 {
					s.dropAll()
				}
			}
			s.quiet(r, 1000)
			s.calmDown()
		}
		s.checkWhole()
	})
}

// Bo2: also behind nearly 2^15 steps.
func TestBo2Late(t *testing.T) {
	inScripts(t, 3, func(s *script, r *rand.Rand) {
		for s.x.Steps() < 1<<15-6000 {
			s.chaos(r, 5000)
			s.quiet(r, 1000)
		}
		want(s, "within", s.x.Steps() <= 1<<15, true)
		s.startAll()
		s.calmDown()
		s.checkWhole()
	})
}

// Bo2, P3: the power of all nodes goes, again and again, with whatever survives: what was acked stays at its offsets.
func TestP3Power(t *testing.T) {
	inScripts(t, 18, func(s *script, r *rand.Rand) {
		for range 15 {
			for range 1 + r.Intn(3) {
				s.submit(r.Intn(s.c.Clients), someBody(r))
			}
			for range r.Intn(30) {
				s.try(moods[0].step(r, s.c))
			}
			for node := range s.c.Nodes {
				s.try(api.Step{Kind: api.StepCrash, At: node, Keep: []int{r.Intn(50), r.Intn(50), r.Intn(50)}})
			}
			if r.Intn(2) == 0 {
				s.dropAll()
			}
			s.startAll()
			if r.Intn(3) == 0 {
				s.calmDown()
				s.checkWhole()
			}
		}
		s.quiet(r, 1000)
		s.calmDown()
		s.checkWhole()
	})
}

// Bo2, P2: without compaction nothing is left out.
func TestP2Whole(t *testing.T) {
	inScripts(t, 18, func(s *script, r *rand.Rand) {
		for range 1500 {
			m := moods[r.Intn(len(moods))]
			m.compact = 0
			s.try(m.step(r, s.c))
		}
		s.quiet(r, 1000)
		s.startAll()
		s.calmDown()
		want(s, "compacts", s.compacts, false)
		s.checkWhole()
		for range 20 {
			from, most := r.Intn(s.x.Commit(0)+1), r.Intn(20)
			l := s.fetch(r.Intn(s.c.Nodes), from, most)
			want(s, "records", len(l), min(most, s.x.Commit(0)-from))
		}
		s.checkWhole()
	})
}

package bound_test

import (
	"math"
	"testing"

	"postroad/api"
	"postroad/bound"
)

// Bo1: the chapter's example.
func TestBo1Example(t *testing.T) {
	c := config(3)
	c.Patience = 3
	want(t, "Rounds", rounds(t, c, 0), 70)
}

// Bo1: so many rounds for all nodes together, and so many for each batch.
func TestBo1Rounds(t *testing.T) {
	for _, k := range []struct{ nodes, patience, given, right int }{
		{3, 1, 0, 50},
		{3, 3, 1, 86},
		{3, 3, 2, 102},
		{3, 100, 0, 1040},
		{5, 1, 0, 70},
		{5, 2, 3, 156},
		{7, 1, 1, 122},
		{7, 100, 0, 1872},
		{3, 1, 65535, 1048610},
		{3, 1, 65536, 1048626},
		{7, 100, 65535, 2098992},
		{7, 100, 65536, 2099024},
	} {
		c := config(k.nodes)
		c.Patience = k.patience
		want(t, "Rounds", rounds(t, c, k.given), k.right)
	}
}

// Bo1: nothing else than nodes and patience counts.
func TestBo1OnlyThese(t *testing.T) {
	for _, clients := range []int{1, 2, 16} {
		for codec := range 3 {
			c := api.Config{Nodes: 5, Clients: clients, Queue: 64, Segment: 1, Disk: 1000, Codec: codec, Patience: 7}
			want(t, "Rounds", rounds(t, c, 9), 7*22+9*24)
		}
	}
}

// Bo1: given is 0 to 2^16.
func TestBo1Given(t *testing.T) {
	for _, given := range []int{math.MinInt, -1, 1<<16 + 1, 1 << 40, math.MaxInt} {
		n, e := bound.Rounds(config(3), given)
		want(t, "Rounds", n, 0)
		want(t, "Rounds", e, api.ErrArg)
	}
}

// field is one of a configuration, with what it may be at its edges, and what it may not.
type field struct {
	of    func(c *api.Config) *int
	right []int
	wrong []int
}

func fields() []field {
	return []field{
		{func(c *api.Config) *int { return &c.Nodes }, []int{3, 5, 7}, []int{0, 1, 2, 4, 6, 8, 9}},
		{func(c *api.Config) *int { return &c.Clients }, []int{1, 16}, []int{0, 17}},
		{func(c *api.Config) *int { return &c.Queue }, []int{1, 64}, []int{0, 65}},
		{func(c *api.Config) *int { return &c.Segment }, []int{1, 1 << 24}, []int{0, 1<<24 + 1}},
		{func(c *api.Config) *int { return &c.Disk }, []int{1000, 1 << 24}, []int{0, 999, 1<<24 + 1}},
		{func(c *api.Config) *int { return &c.Codec }, []int{0, 1, 2}, []int{3}},
		{func(c *api.Config) *int { return &c.Patience }, []int{1, 100}, []int{0, 101}},
	}
}

// errnos are what the three calls answer of a configuration; beside an error there is nothing.
func errnos(t *testing.T, c api.Config) [3]api.Errno {
	t.Helper()
	n, a := bound.Rounds(c, 1)
	calm, b := bound.Calm(c)
	starts, d := bound.Starts(c)
	if a != api.OK && n != 0 || b != api.OK && len(calm) > 0 || d != api.OK && len(starts) > 0 {
		t.Error("beside an error:", n, calm, starts)
	}
	return [3]api.Errno{a, b, d}
}

// Bo1: each call refuses a configuration that may not be.
func TestBo1Config(t *testing.T) {
	refused := [3]api.Errno{api.ErrArg, api.ErrArg, api.ErrArg}
	for _, f := range fields() {
		for _, n := range append(f.wrong, math.MinInt, -1, math.MaxInt) {
			c := config(3)
			*f.of(&c) = n
			want(t, "refused", errnos(t, c), refused)
		}
		for _, n := range f.right {
			c := config(3)
			*f.of(&c) = n
			want(t, "at its edge", errnos(t, c), [3]api.Errno{})
		}
	}
	want(t, "nothing", errnos(t, api.Config{}), refused)
	if n, e := bound.Rounds(api.Config{}, -1); n != 0 || e != api.ErrArg {
		t.Error("neither may be:", n, e)
	}
}

// checkSteps holds steps to those of so many of each kind, one for each number, and, where it is not 0, one that delivers.
func checkSteps(t *testing.T, got []api.Step, clients, nodes, kind, deliver int) {
	t.Helper()
	var right []api.Step
	for i := 0; i < clients; i++ {
		right = append(right, api.Step{Kind: api.StepClient, At: i})
	}
	for i := 0; i < nodes; i++ {
		right = append(right, api.Step{Kind: kind, At: i})
	}
	if deliver > 0 {
		right = append(right, api.Step{Kind: api.StepDeliver, Max: deliver})
	}
	want(t, "steps", len(got), len(right))
	for i := range min(len(got), len(right)) {
		a, b := got[i], right[i]
		if a.Kind != b.Kind || a.At != b.At || a.N != b.N || a.Max != b.Max || len(a.Records)+len(a.Keep) > 0 {
			t.Errorf("step %d: %v, not %v", i, a, b)
		}
	}
}

// Bo1: a calm round: each client, each node, then all that is under way, and what comes of it.
func TestBo1Calm(t *testing.T) {
	for _, k := range []struct{ nodes, clients, deliver int }{
		{3, 1, 2304}, {3, 16, 5184}, {5, 1, 4480}, {5, 3, 5120}, {5, 16, 9280}, {7, 1, 7168}, {7, 16, 13888},
	} {
		c := config(k.nodes)
		c.Clients = k.clients
		checkSteps(t, calm(t, c), k.clients, k.nodes, api.StepTick, k.deliver)
	}
}

// Bo1: each node is started, in order; those that run refuse it, and the others run.
func TestBo1Starts(t *testing.T) {
	for _, nodes := range []int{3, 5, 7} {
		c := config(nodes)
		c.Clients = 16
		checkSteps(t, starts(t, c), 0, nodes, api.StepStart, 0)
		s := newScript(t, c)
		s.startAll()
		s.crash(0)
		s.crash(nodes - 1)
		s.startAll()
		want(t, "Steps", s.x.Steps(), 4)
	}
}

// Bo1: of a calm round no step is refused, where all nodes run, and nothing stays under way.
func TestBo1Round(t *testing.T) {
	for _, nodes := range []int{3, 5, 7} {
		s := newScript(t, config(nodes))
		for client := range 3 {
			s.submit(client, body("k", "v"))
		}
		s.round()
		want(t, "Steps", s.x.Steps(), 3+3+nodes+1)
		want(t, "lacking", s.lacking(), 0)
		want(t, "Under", s.x.Under(), 0)
	}
}

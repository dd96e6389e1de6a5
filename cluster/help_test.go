package cluster_test

import (
	"slices"
	"strconv"
	"testing"

	"postroad/api"
	"postroad/cluster"
)

func want[T comparable](t testing.TB, what string, got, right T) {
	t.Helper()
	if got != right {
		t.Errorf("%s: %v, not %v", what, got, right)
	}
}

// config is one that may be, for so many nodes.
func config(nodes int) api.Config {
	return api.Config{Nodes: nodes, Clients: 3, Queue: 4, Segment: 200, Disk: 1 << 20, Patience: 2}
}

// body are records with these texts as keys and values, in turn.
func body(texts ...string) []api.Record {
	var out []api.Record
	for i := 0; i < len(texts); i += 2 {
		out = append(out, api.Record{Key: texts[i], Value: texts[i+1]})
	}
	return out
}

func id(producer, seq int) api.Id { return api.Id{Producer: producer, Seq: seq} }

// said is what a client was given.
type said struct {
	id      api.Id
	records []api.Record
}

// script does steps, and keeps what clients were given.
type script struct {
	testing.TB
	c    api.Config
	x    *cluster.Cluster
	said []said
}

func newScript(t testing.TB, c api.Config) *script {
	t.Helper()
	x, e := cluster.New(c)
	if x == nil || e != api.OK {
		t.Fatal("New:", c, e)
	}
	return &script{TB: t, c: c, x: x}
}

// try does a step that may be refused.
func (s *script) try(step api.Step) api.Errno {
	s.Helper()
	seq, _ := s.x.Asked(step.At)
	e := s.x.Step(step)
	if e == api.OK && step.Kind == api.StepSubmit {
		l := slices.Clone(step.Records)
		for i := range l {
			l[i].Offset = i
		}
		s.said = append(s.said, said{id(step.At, seq), l})
	}
	return e
}

// do does a step that may not.
func (s *script) do(step api.Step) {
	s.Helper()
	if e := s.try(step); e != api.OK {
		s.Fatal("refused:", step.Kind, step.At, step.N, step.Max, e)
	}
}

func (s *script) submit(client int, records []api.Record) {
	s.Helper()
	s.do(api.Step{Kind: api.StepSubmit, At: client, Records: records})
}

// deliver lets the first messages arrive, so many.
func (s *script) deliver(n int) {
	s.Helper()
	if n > 0 {
		s.do(api.Step{Kind: api.StepDeliver, Max: n - 1})
	}
}

func (s *script) drop(n int) {
	s.Helper()
	s.do(api.Step{Kind: api.StepDrop, N: n})
}

// dropAll lets all that is under way be lost.
func (s *script) dropAll() {
	s.Helper()
	for s.x.Under() > 0 {
		s.drop(0)
	}
}

func (s *script) tick(nodes ...int) {
	s.Helper()
	for _, node := range nodes {
		s.do(api.Step{Kind: api.StepTick, At: node})
	}
}

func (s *script) tickClient(client int) {
	s.Helper()
	s.do(api.Step{Kind: api.StepClient, At: client})
}

func (s *script) crash(node int, keep ...int) {
	s.Helper()
	s.do(api.Step{Kind: api.StepCrash, At: node, Keep: keep})
}

func (s *script) start(node int) {
	s.Helper()
	s.do(api.Step{Kind: api.StepStart, At: node})
}

// fetch is what a node answers, from an offset on, at most so many records.
func (s *script) fetch(node, from, most int) []api.Record {
	s.Helper()
	s.do(api.Step{Kind: api.StepFetch, At: node, N: from, Max: most})
	l := s.x.Fetched()
	return l[len(l)-1].Records
}

// startAll lets all nodes run.
func (s *script) startAll() {
	s.Helper()
	for node := range s.c.Nodes {
		if !s.x.Runs(node) {
			s.start(node)
		}
	}
}

// round is a calm one, as layer 19 has it.
func (s *script) round() {
	s.Helper()
	for client := range s.c.Clients {
		s.tickClient(client)
	}
	for node := range s.c.Nodes {
		s.try(api.Step{Kind: api.StepTick, At: node}) // one that does not run refuses it
	}
	s.do(api.Step{Kind: api.StepDeliver, Max: 64 * s.c.Nodes * (s.c.Nodes + s.c.Clients + 8)})
}

// lacking is how many batches are not answered for good.
func (s *script) lacking() int {
	n := 0
	for client := range s.c.Clients {
		given, done := s.x.Asked(client)
		n += given - done
	}
	return n
}

// rounds is within how many calm ones all must be answered, by layer 19's formula.
func (s *script) rounds() int {
	return (s.c.Nodes+2)*(2*s.c.Patience+8) + s.lacking()*(4*s.c.Nodes+4)
}

// last is the last answer that a client got.
func (s *script) last(client int) api.Ack {
	l := s.x.Acks()
	for i := len(l) - 1; i >= 0; i-- {
		if l[i].Id.Producer == client {
			return l[i]
		}
	}
	return api.Ack{Step: -1}
}

// checkAcked: the last answer that a client got is OK, for its batch of a number, at these offsets.
func (s *script) checkAcked(client, seq, base, count int) {
	s.Helper()
	a := s.last(client)
	if a.Err != api.OK || a.Id != id(client, seq) || a.Base != base || a.Count != count {
		s.Errorf("%d: %v, not %d at %d, %d", client, a, seq, base, count)
	}
}

// told are records as a text: offset, key and value.
func told(l []api.Record) string {
	out := ""
	for _, r := range l {
		out += strconv.Itoa(r.Offset) + r.Key
		if !r.Gone {
			out += "=" + r.Value
		}
		out += " "
	}
	return out
}

package bound_test

import (
	"slices"
	"strconv"
	"testing"

	"postroad/api"
	"postroad/audit"
	"postroad/bound"
	"postroad/cluster"
)

func want[T comparable](t testing.TB, what string, got, right T) {
	t.Helper()
	if got != right {
		t.Errorf("%s: %v, not %v", what, got, right)
	}
}

// config is one that may be, for so many nodes.
func config(nodes int) api.Config {
	return api.Config{Nodes: nodes, Clients: 3, Queue: 4, Segment: 200, Disk: 1 << 20, Patience: 2}
}

// body are records with these texts as keys and values, in turn.
func body(texts ...string) []api.Record {
	var out []api.Record
	for i := 0; i < len(texts); i += 2 {
		out = append(out, api.Record{Key: texts[i], Value: texts[i+1]})
	}
	return out
}

// told are records as a text: offset, key and value.
func told(l []api.Record) string {
	out := ""
	for _, r := range l {
		out += strconv.Itoa(r.Offset) + r.Key
		if !r.Gone {
			out += "=" + r.Value
		}
		out += " "
	}
	return out
}

func right[T any](t testing.TB, what string) func(l T, e api.Errno) T {
	return func(l T, e api.Errno) T {
		t.Helper()
		want(t, what, e, api.OK)
		return l
	}
}

func rounds(t testing.TB, c api.Config, given int) int {
	t.Helper()
	return right[int](t, "Rounds")(bound.Rounds(c, given))
}

func calm(t testing.TB, c api.Config) []api.Step {
	t.Helper()
	return right[[]api.Step](t, "Calm")(bound.Calm(c))
}

func starts(t testing.TB, c api.Config) []api.Step {
	t.Helper()
	return right[[]api.Step](t, "Starts")(bound.Starts(c))
}

// script does steps of a cluster, and keeps what its clients were given.
type script struct {
	testing.TB
	c        api.Config
	x        *cluster.Cluster
	said     []audit.Said
	compacts bool // a node compacted
}

func newScript(t testing.TB, c api.Config) *script {
	t.Helper()
	x, e := cluster.New(c)
	if x == nil || e != api.OK {
		t.Fatal("New:", c, e)
	}
	return &script{TB: t, c: c, x: x}
}

// try does a step that may be refused. P6: never more wait than may.
func (s *script) try(one api.Step) api.Errno {
	s.Helper()
	given, _ := s.x.Asked(one.At)
	e := s.x.Step(one)
	if e == api.OK && one.Kind == api.StepSubmit {
		s.said = append(s.said, audit.Said{Id: api.Id{Producer: one.At, Seq: given}, Records: slices.Clone(one.Records)})
	}
	s.compacts = s.compacts || e == api.OK && one.Kind == api.StepCompact
	for node := range s.c.Nodes {
		if s.x.Waiting(node) > s.c.Queue {
			s.Fatal("so many wait at", node, ":", s.x.Waiting(node))
		}
	}
	return e
}

// do does a step that may not.
func (s *script) do(one api.Step) {
	s.Helper()
	if e := s.try(one); e != api.OK {
		s.Fatal("refused:", one.Kind, one.At, one.N, one.Max, e)
	}
}

func (s *script) submit(client int, records []api.Record) {
	s.Helper()
	s.do(api.Step{Kind: api.StepSubmit, At: client, Records: records})
}

// deliver lets the first messages arrive, so many.
func (s *script) deliver(n int) {
	s.Helper()
	if n > 0 {
		s.do(api.Step{Kind: api.StepDeliver, Max: n - 1})
	}
}

func (s *script) dropAll() {
	s.Helper()
	for s.x.Under() > 0 {
		s.do(api.Step{Kind: api.StepDrop})
	}
}

func (s *script) crash(node int, keep ...int) {
	s.Helper()
	s.do(api.Step{Kind: api.StepCrash, At: node, Keep: keep})
}

func (s *script) start(node int) {
	s.Helper()
	s.do(api.Step{Kind: api.StepStart, At: node})
}

// fetch is what a node answers, from an offset on, at most so many records.
func (s *script) fetch(node, from, most int) []api.Record {
	s.Helper()
	s.do(api.Step{Kind: api.StepFetch, At: node, N: from, Max: most})
	l := s.x.Fetched()
	return l[len(l)-1].Records
}

// startAll lets all nodes run: those that do refuse it.
func (s *script) startAll() {
	s.Helper()
	for _, one := range starts(s, s.c) {
		runs := s.x.Runs(one.At)
		if e := s.try(one); runs != (e == api.ErrArg) || !s.x.Runs(one.At) {
			s.Fatal("start:", one, e)
		}
	}
}

// round is a calm one: those who do not run refuse to tick.
func (s *script) round() {
	s.Helper()
	for _, one := range calm(s, s.c) {
		down := one.Kind == api.StepTick && !s.x.Runs(one.At)
		if e := s.try(one); down != (e == api.ErrDown) || !down && e != api.OK {
			s.Fatal("a calm round's step:", one, e)
		}
	}
}

// lacking is how many batches are not answered for good.
func (s *script) lacking() int {
	n := 0
	for client := range s.c.Clients {
		given, done := s.x.Asked(client)
		n += given - done
	}
	return n
}

// isAnswered tells whether all is, for good, and all nodes that run have it, committed.
func (s *script) isAnswered() bool {
	end := 0
	for _, a := range s.x.Acks() {
		end = max(end, a.Base+a.Count)
	}
	for node := range s.c.Nodes {
		end = max(end, s.x.Commit(node))
	}
	for node := range s.c.Nodes {
		if s.x.Runs(node) && s.x.Commit(node) != end {
			return false
		}
	}
	return s.lacking() == 0
}

// calmDown holds the cluster to Bo2: behind so many calm rounds all is answered. It tells by how many of them it was; a few more show that it stays so.
func (s *script) calmDown() int {
	s.Helper()
	most := rounds(s, s.c, s.lacking())
	n := 0
	for ; !s.isAnswered(); n++ {
		if n == most {
			s.Fatal("not answered within", most, "calm rounds:", s.lacking(), "lack")
		}
		s.round()
	}
	for range min(3, most-n) {
		s.round()
	}
	want(s, "it stays answered", s.isAnswered(), true)
	return n
}

// checkAsks holds what was told to layer 18, as far as it holds at any time, and the errors to P6.
func (s *script) checkAsks() {
	s.Helper()
	if e, i := audit.Acks(s.x.Acks()); e != api.OK {
		s.Fatal("Acks:", e, s.x.Acks()[i])
	}
	if e, i := audit.Fetches(s.x.Fetched(), s.said); e != api.OK {
		s.Fatal("Fetches:", e, s.x.Fetched()[i])
	}
	for _, a := range s.x.Acks() {
		switch a.Err {
		case api.OK, api.ErrQueue, api.ErrDisk, api.ErrPrimary, api.ErrLarge:
		default:
			s.Fatal("no such answer:", a)
		}
	}
}

// all is what each node tells from the beginning on.
func (s *script) all() [][]api.Record {
	s.Helper()
	var out [][]api.Record
	for node := range s.c.Nodes {
		out = append(out, s.fetch(node, 0, api.MaxOffset))
	}
	return out
}

// recordsOf are those of a batch that was given, at the offsets that its ack names.
func (s *script) recordsOf(a api.Ack) []api.Record {
	s.Helper()
	i := slices.IndexFunc(s.said, func(b audit.Said) bool { return b.Id == a.Id })
	if i < 0 || len(s.said[i].Records) != a.Count {
		s.Fatal("not what was given:", a)
	}
	l := slices.Clone(s.said[i].Records)
	for i := range l {
		l[i].Offset = a.Base + i
	}
	return l
}

// checkWhole holds a cluster of which all nodes run, and all is answered, to P1, P2, P4 and P6: each node tells the records of what was acked, each batch once, in the order of the acks' offsets, and nothing else; those that compacted lack only what has its key behind it.
func (s *script) checkWhole() {
	s.Helper()
	logs := s.all()
	s.checkAsks()
	if e, i := audit.Keeps(s.x.Acks(), s.x.Fetched(), s.said); e != api.OK {
		s.Fatal("Keeps:", e, s.x.Fetched()[i])
	}
	var right []api.Record
	wasAcked := map[api.Id]bool{}
	for _, a := range s.x.Acks() {
		if a.Err == api.OK && !wasAcked[a.Id] {
			wasAcked[a.Id] = true
			right = append(right, s.recordsOf(a)...)
		}
	}
	slices.SortFunc(right, func(a, b api.Record) int { return a.Offset - b.Offset })
	for i, r := range right {
		if r.Offset != i {
			s.Fatal("nothing acked is at", i)
		}
	}
	last := map[string]int{}
	for _, r := range right {
		last[r.Key] = r.Offset
	}
	for node, log := range logs {
		n := 0
		for _, r := range right {
			switch {
			case n < len(log) && log[n] == r:
				n++
			case !s.compacts || last[r.Key] == r.Offset:
				s.Fatal(node, "lacks", r)
			}
		}
		want(s, "records that nobody acked", len(log)-n, 0)
	}
}

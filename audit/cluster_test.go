package audit_test

import (
	"math/rand"
	"slices"
	"strconv"
	"testing"

	"postroad/api"
	"postroad/audit"
	"postroad/cluster"
)

// script does steps of a cluster, and keeps what its clients were given.
type script struct {
	*testing.T
	c    api.Config
	x    *cluster.Cluster
	said []audit.Said
}

func newScript(t *testing.T, c api.Config) *script {
	t.Helper()
	x, e := cluster.New(c)
	if e != api.OK {
		t.Fatal("New:", c, e)
	}
	return &script{T: t, c: c, x: x}
}

func (s *script) step(one api.Step) {
	given, _ := s.x.Asked(one.At)
	if s.x.Step(one) == api.OK && one.Kind == api.StepSubmit {
		s.said = append(s.said, audit.Said{Id: api.Id{Producer: one.At, Seq: given}, Records: one.Records})
	}
}

// someStep is one by chance: power goes and comes, messages are lost, doubled and late, logs are compacted.
func (s *script) someStep(r *rand.Rand, compacts bool) api.Step {
	node := r.Intn(s.c.Nodes)
	switch k := r.Intn(100); {
	case k < 9:
		return api.Step{Kind: api.StepSubmit, At: r.Intn(s.c.Clients), Records: someBody(r)}
	case k < 18:
		return api.Step{Kind: api.StepTick, At: node}
	case k < 24:
		return api.Step{Kind: api.StepClient, At: r.Intn(s.c.Clients)}
	case k < 27:
		return api.Step{Kind: api.StepCrash, At: node, Keep: []int{r.Intn(60), r.Intn(60), r.Intn(60)}}
	case k < 31:
		return api.Step{Kind: api.StepStart, At: node}
	case k < 33 && compacts:
		return api.Step{Kind: api.StepCompact, At: node}
	case k < 36:
		return api.Step{Kind: api.StepFetch, At: node, N: r.Intn(60), Max: r.Intn(60)}
	case k < 40:
		return api.Step{Kind: api.StepTwice, N: r.Intn(1000)}
	case k < 43:
		return api.Step{Kind: api.StepDrop, N: r.Intn(1000)}
	}
	return api.Step{Kind: api.StepDeliver, N: r.Intn(3) / 2 * r.Intn(1000)}
}

func someBody(r *rand.Rand) []api.Record {
	if r.Intn(40) == 0 {
		return []api.Record{{Value: "it may not be", Gone: true}}
	}
	var out []api.Record
	for range 1 + r.Intn(4) {
		one := api.Record{Key: "k" + strconv.Itoa(r.Intn(6)), Gone: r.Intn(8) == 0}
		if !one.Gone {
			one.Value = strconv.Itoa(r.Intn(1000))
		}
		out = append(out, one)
	}
	return out
}

// rest lets all nodes run, and calm rounds go by until all have the same, committed; then all are asked for all records.
func (s *script) rest(rounds int) {
	s.Helper()
	for node := range s.c.Nodes {
		s.step(api.Step{Kind: api.StepStart, At: node})
	}
	for ; !s.isSame(); rounds-- {
		if rounds == 0 {
			s.Fatal("nodes have not the same")
		}
		for client := range s.c.Clients {
			s.step(api.Step{Kind: api.StepClient, At: client})
		}
		for node := range s.c.Nodes {
			s.step(api.Step{Kind: api.StepTick, At: node})
		}
		s.step(api.Step{Kind: api.StepDeliver, Max: 10000})
	}
	for node := range s.c.Nodes {
		s.step(api.Step{Kind: api.StepFetch, At: node, Max: 1 << 40})
	}
}

func (s *script) isSame() bool {
	for client := range s.c.Clients {
		if given, done := s.x.Asked(client); given != done {
			return false
		}
	}
	for node := range s.c.Nodes {
		if s.x.Commit(node) != s.x.Commit(0) || s.x.End(node) != s.x.Commit(0) {
			return false
		}
	}
	return true
}

func (s *script) story() *story { return &story{s.x.Acks(), s.x.Fetched(), s.said} }

// inScripts runs what is done by chance, for so many seeds.
func inScripts(t *testing.T, seeds int, do func(s *script, r *rand.Rand)) {
	for seed := range seeds {
		t.Run(strconv.Itoa(seed), func(t *testing.T) {
			t.Parallel()
			c := api.Config{Nodes: 3 + 2*(seed%3), Clients: 3, Queue: 1 + seed%4, Disk: 1 << 20, Patience: 1 + seed%3}
			c.Segment = []int{1, 100, 1000}[seed/3%3]
			do(newScript(t, c), rand.New(rand.NewSource(int64(seed))))
		})
	}
}

// Au1, Au2, Au3, P1, P2, P4: nothing that a cluster tells is refused, whatever becomes of its nodes and messages.
func TestP1Cluster(t *testing.T) {
	inScripts(t, 24, func(s *script, r *rand.Rand) {
		for i := range 3 {
			for range 600 {
				s.step(s.someStep(r, i > 0))
			}
			told := s.story()
			want(t, "Acks", acks(told.acks...), fine)
			want(t, "Fetches", fetches(told.fetched, told.said), fine)
			s.rest(2000)
			s.story().check(s)
		}
		told := s.story()
		want(t, "enough acks", len(told.acks) > 20, true)
		want(t, "enough fetches", len(told.fetched) > 20, true)
		want(t, "Acks", acks(told.acks...), fine)
		want(t, "Fetches", fetches(told.fetched, told.said), fine)
		want(t, "Keeps", keeps(told.acks, told.fetched, told.said), fine)
	})
}

// Au1, Au2, Au3: what a cluster told, and one thing that no log could tell, is refused.
func TestP1Spoiled(t *testing.T) {
	inScripts(t, 12, func(s *script, r *rand.Rand) {
		for range 600 {
			s.step(s.someStep(r, false))
		}
		s.rest(2000)
		told := s.story()
		all := len(told.fetched) - 1
		records := &told.fetched[all].Records
		whole := slices.Clone(*records)

		last := whole[len(whole)-1]
		at := slices.IndexFunc(whole, func(one api.Record) bool { return !isBehind(one, whole) && one != last })
		if at < 0 {
			s.Fatal("all are of one key")
		}
		*records = slices.Delete(slices.Clone(whole), at, at+1)
		want(t, "one lost", keeps(told.acks, told.fetched, told.said), answer{api.ErrGone, all})
		want(t, "one lost", fetches(told.fetched, told.said), fine)

		*records = slices.Clone(whole)
		(*records)[at].Value += "x"
		want(t, "one changed", fetches(told.fetched, told.said), answer{api.ErrOrder, all})
		*records = append(slices.Clone(whole), api.Record{Offset: last.Offset + 1, Key: "nobody's"})
		want(t, "one that nobody asked for", fetches(told.fetched, told.said), answer{api.ErrNone, all})
		*records = whole

		good := slices.IndexFunc(told.acks, isGood)
		again := told.acks[good]
		again.Base++
		want(t, "appended twice", acks(append(told.acks, again)...), answer{api.ErrOrder, len(told.acks)})
		again = told.acks[good]
		again.Id = api.Id{Producer: 9}
		want(t, "two at an offset", acks(append(told.acks, again)...), answer{api.ErrOrder, len(told.acks)})
	})
}

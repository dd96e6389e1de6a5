package cluster_test

import (
	"math/rand"
	"slices"
	"strconv"
	"testing"

	"postroad/api"
	"postroad/replica"
	"postroad/vdisk"
	"postroad/wire"
)

// watch is the chapter's words beside a cluster: nodes of its own, that are told the same, a list of messages, and clients of which it knows all but whom they ask.
type watch struct {
	*script
	disks   []*vdisk.Disk
	nodes   []*replica.Node
	under   []string
	given   [][][]api.Record // of each client, all
	done    []int
	acks    []api.Ack
	fetched []api.Fetched
	steps   int
}

func newWatch(t testing.TB, c api.Config) *watch {
	t.Helper()
	w := &watch{script: newScript(t, c), nodes: make([]*replica.Node, c.Nodes), given: make([][][]api.Record, c.Clients), done: make([]int, c.Clients)}
	for node := range c.Nodes {
		d, _ := vdisk.New(c.Disk)
		w.disks = append(w.disks, d)
		w.nodes[node], _ = replica.New(c, node, d)
	}
	return w
}

// errno is what a step must be answered.
func (w *watch) errno(s api.Step) api.Errno {
	ofClient := s.Kind == api.StepSubmit || s.Kind == api.StepClient
	ofNode := s.Kind == api.StepTick || s.Kind >= api.StepCrash && s.Kind <= api.StepFetch
	withN := s.Kind == api.StepDeliver || s.Kind == api.StepDrop || s.Kind == api.StepTwice || s.Kind == api.StepFetch
	withMax := s.Kind == api.StepDeliver || s.Kind == api.StepFetch
	switch {
	case s.Kind < 1 || s.Kind > 10,
		ofClient && (s.At < 0 || s.At >= w.c.Clients),
		ofNode && (s.At < 0 || s.At >= w.c.Nodes),
		withN && s.N < 0,
		withMax && s.Max < 0,
		s.Kind == api.StepSubmit && len(s.Records) > api.MaxRecords:
		return api.ErrArg
	case w.steps >= api.MaxSteps:
		return api.ErrFull
	case ofNode && s.Kind != api.StepStart && w.nodes[s.At] == nil:
		return api.ErrDown
	case s.Kind == api.StepStart && w.nodes[s.At] != nil:
		return api.ErrArg
	}
	return api.OK
}

// step does a step on both: one message arrives at most, so that whom a client asks is to be seen.
func (w *watch) step(s api.Step) {
	w.Helper()
	e := w.errno(s)
	if got := w.try(s); got != e {
		w.Fatal("Step:", s, got, e)
	}
	if e == api.OK {
		w.apply(s)
		w.steps++
	}
	w.check()
}

// apply does a step by the chapter's words.
func (w *watch) apply(s api.Step) {
	w.Helper()
	switch s.Kind {
	case api.StepSubmit:
		l := slices.Clone(s.Records)
		for i := range l {
			l[i].Offset = i
		}
		w.given[s.At] = append(w.given[s.At], l)
		if len(w.given[s.At]) == w.done[s.At]+1 {
			w.asks(s.At)
		}
	case api.StepDeliver:
		if len(w.under) > 0 {
			w.arrive(w.take(s.N))
		}
	case api.StepDrop:
		if len(w.under) > 0 {
			w.take(s.N)
		}
	case api.StepTwice:
		if k := len(w.under); k > 0 {
			w.under = append(w.under, w.under[s.N%k])
		}
	case api.StepTick:
		w.under = append(w.under, w.nodes[s.At].Tick()...)
	case api.StepClient:
		w.asks(s.At)
	case api.StepCrash:
		w.nodes[s.At] = nil
		w.disks[s.At].Crash(s.Keep)
	case api.StepStart:
		w.nodes[s.At], _ = replica.New(w.c, s.At, w.disks[s.At])
	case api.StepCompact:
		w.nodes[s.At].Compact()
	case api.StepFetch:
		l, e := w.nodes[s.At].Fetch(s.N, s.Max)
		w.fetched = append(w.fetched, api.Fetched{Step: w.steps, At: s.At, From: s.N, Err: e, Records: l})
	}
}

func (w *watch) take(n int) string {
	place := n % len(w.under)
	s := w.under[place]
	w.under = slices.Delete(w.under, place, place+1)
	return s
}

func (w *watch) arrive(s string) {
	w.Helper()
	m, _ := wire.Of(s)
	client := m.To - 100
	switch {
	case m.To < w.c.Nodes:
		if w.nodes[m.To] != nil {
			w.under = append(w.under, w.nodes[m.To].Receive(s)...)
		}
	case len(w.given[client]) == w.done[client] || m.Id != id(client, w.done[client]):
	default:
		a := api.Ack{Step: w.steps, Id: m.Id, Err: m.Err}
		if m.Err == api.OK {
			a.Base, a.Count = m.Base, len(w.given[client][m.Id.Seq])
		}
		w.acks = append(w.acks, a)
		if m.Err == api.OK || m.Err == api.ErrLarge {
			w.done[client]++
		}
		w.asks(client)
	}
}

// asks lets a client ask for what it waits for: of the cluster's last message it is only to be said to whom it goes.
func (w *watch) asks(client int) {
	w.Helper()
	for ; w.done[client] < len(w.given[client]); w.done[client]++ {
		seq := w.done[client]
		m := api.Message{Kind: api.MsgAppend, From: 100 + client, Id: id(client, seq), Body: w.given[client][seq]}
		l := w.x.Messages()
		if len(l) > 0 {
			last, _ := wire.Of(l[len(l)-1])
			m.To = last.To
		}
		s, e := wire.Bytes(m)
		if e == api.OK {
			if m.To >= w.c.Nodes {
				w.Fatal("nobody is asked:", m)
			}
			w.under = append(w.under, s)
			return
		}
		w.acks = append(w.acks, api.Ack{Step: w.steps, Id: m.Id, Err: api.ErrLarge})
	}
}

// check holds all that the cluster tells to what it must.
func (w *watch) check() {
	w.Helper()
	x := w.x
	if x.Steps() != w.steps || x.Under() != len(w.under) || !slices.Equal(x.Messages(), w.under) {
		w.Fatal("under way, behind", x.Steps(), w.steps, ":", x.Under(), len(w.under))
	}
	for node, n := range w.nodes {
		if n == nil {
			w.checkNoNode(node)
			continue
		}
		w.checkNode(node, n.View(), n.Commit(), n.End(), n.Waiting())
		if n.Waiting() > w.c.Queue {
			w.Fatal("so many wait:", n.Waiting())
		}
	}
	for client := range w.c.Clients {
		w.checkAsked(client, len(w.given[client]), w.done[client])
	}
	if w.Failed() {
		w.Fatal("behind the step", w.steps)
	}
}

// checkLists holds the answers to it, that grow with the steps.
func (w *watch) checkLists() {
	w.Helper()
	if !slices.Equal(w.x.Acks(), w.acks) {
		w.Fatal("Acks:", len(w.acks))
	}
	got := w.x.Fetched()
	want(w, "Fetched", len(got), len(w.fetched))
	for i, f := range w.fetched {
		g := got[i]
		if g.Step != f.Step || g.At != f.At || g.From != f.From || g.Err != f.Err || !slices.Equal(g.Records, f.Records) {
			w.Fatal("Fetched:", g, f)
		}
	}
}

// someStep is a step of any kind by chance; mostly it may be.
func someStep(r *rand.Rand, c api.Config) api.Step {
	s := api.Step{At: r.Intn(c.Nodes), N: r.Intn(1000)}
	switch k := r.Intn(100); {
	case k < 8:
		s = api.Step{Kind: api.StepSubmit, At: r.Intn(c.Clients), Records: someBody(r)}
	case k < 16:
		s.Kind = api.StepTick
	case k < 22:
		s.Kind, s.At = api.StepClient, r.Intn(c.Clients)
	case k < 25:
		s.Kind, s.Keep = api.StepCrash, []int{r.Intn(60) - 9, r.Intn(60) - 9, r.Intn(60) - 9}[:r.Intn(4)]
	case k < 29:
		s.Kind = api.StepStart
	case k < 31:
		s.Kind = api.StepCompact
	case k < 33:
		s.Kind, s.N, s.Max = api.StepFetch, r.Intn(50), r.Intn(50)
	case k < 37:
		s.Kind = api.StepTwice
	case k < 40:
		s.Kind = api.StepDrop
	case k < 41:
		s = api.Step{Kind: r.Intn(14) - 1, At: r.Intn(20) - 2, N: r.Intn(5) - 2, Max: r.Intn(5) - 2, Records: make([]api.Record, r.Intn(2)*(api.MaxRecords+1))}
		if s.Kind == api.StepDeliver {
			s.Max = 0
		}
	default:
		s.Kind = api.StepDeliver
		if r.Intn(3) > 0 {
			s.N = 0
		}
	}
	return s
}

func someBody(r *rand.Rand) []api.Record {
	switch r.Intn(40) {
	case 0:
		return nil
	case 1:
		return []api.Record{{Key: "k", Value: "v", Gone: true}} // that may not be
	}
	var out []api.Record
	for range 1 + r.Intn(4) {
		l := api.Record{Offset: r.Int(), Key: "k" + strconv.Itoa(r.Intn(6)), Gone: r.Intn(8) == 0}
		if !l.Gone {
			value := make([]byte, r.Intn(20))
			r.Read(value)
			l.Value = string(value)
		}
		out = append(out, l)
	}
	return out
}

// inScripts runs what is done by chance, for so many seeds.
func inScripts(t *testing.T, seeds int, do func(t *testing.T, c api.Config, r *rand.Rand)) {
	for seed := range seeds {
		t.Run(strconv.Itoa(seed), func(t *testing.T) {
			t.Parallel()
			c := config(3 + 2*(seed%3))
			c.Patience = 1 + seed%4
			c.Queue = []int{1, 3, 64}[seed/2%3]
			c.Segment = []int{1, 100, 500, 5000}[seed%4]
			c.Codec = []int{api.CodecNone, api.CodecLz}[seed/3%2] // the third one takes its time
			if seed%5 == 4 {
				c.Disk = 3000 // it becomes full
			}
			do(t, c, rand.New(rand.NewSource(int64(seed))))
		})
	}
}

// Cl1: each step does what the chapter says, and nothing else, whatever was done.
func TestCl1Steps(t *testing.T) {
	inScripts(t, 30, func(t *testing.T, c api.Config, r *rand.Rand) {
		w := newWatch(t, c)
		for i := range 3000 {
			w.step(someStep(r, c))
			if i%300 == 299 {
				w.checkLists()
			}
		}
		want(t, "acks", len(w.acks) > 20, true)
		want(t, "fetched", len(w.fetched) > 20, true)
	})
}

// Cl1: a delivery of several is as many of one each: only the steps have other numbers.
func TestCl1Several(t *testing.T) {
	inScripts(t, 20, func(t *testing.T, c api.Config, r *rand.Rand) {
		several, single := newScript(t, c), newScript(t, c)
		for range 1500 {
			step := someStep(r, c)
			times := 0
			if step.Kind == api.StepDeliver {
				times = r.Intn(40)
			}
			step.Max += times
			e := several.try(step)
			step.Max -= times
			for range times + 1 {
				want(t, "Step", single.try(step), e)
			}
			if !slices.Equal(several.x.Messages(), single.x.Messages()) {
				t.Fatal("not the same:", step, times)
			}
		}
		a, b := several.x.Acks(), single.x.Acks()
		for i := range a {
			a[i].Step, b[i].Step = 0, 0
		}
		if !slices.Equal(a, b) {
			t.Error("other acks:", len(a), len(b))
		}
	})
}

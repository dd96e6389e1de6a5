package cluster_test

import (
	"math"
	"math/rand"
	"runtime"
	"slices"
	"strings"
	"testing"
	"unsafe"

	"postroad/api"
	"postroad/cluster"
)

// R1: clusters that New did not give.
func TestR1NotGiven(t *testing.T) {
	s := newScript(t, config(3))
	s.submit(0, body("k", "v"))
	s.deliver(100)
	s.fetch(0, 0, 9)
	byValue := *s.x
	was := state(s.x, s.c)
	for _, x := range []*cluster.Cluster{nil, {}, new(cluster.Cluster), &byValue} {
		for kind := range 12 {
			want(t, "Step", x.Step(api.Step{Kind: kind}), api.ErrArg)
		}
		want(t, "Steps", x.Steps(), 0)
		want(t, "Under", x.Under(), 0)
		for _, n := range []int{-1, 0, 1, 3} {
			want(t, "Runs", x.Runs(n), false)
			for _, got := range []int{x.View(n), x.Commit(n), x.End(n), x.Waiting(n)} {
				want(t, "of a node", got, -1)
			}
			if given, done := x.Asked(n); given != 0 || done != 0 {
				t.Error("Asked:", given, done)
			}
		}
		if len(x.Acks()) > 0 || len(x.Fetched()) > 0 {
			t.Error("lists:", x.Acks(), x.Fetched())
		}
	}
	if state(s.x, s.c) != was {
		t.Error("the one that was given has changed")
	}
}

// R1: each call ends at all arguments, whatever was done ahead of it.
func TestR1Ends(t *testing.T) {
	wild := []int{math.MinInt, math.MinInt + 1, -1, 0, 1, 2, 3, 7, 16, 100, 255, 256, 1 << 16, 1 << 31, 1 << 40, math.MaxInt - 1, math.MaxInt}
	for _, n := range wild {
		cluster.New(api.Config{Nodes: n, Clients: n, Queue: n, Segment: n, Disk: n, Codec: n, Patience: n})
	}
	inScripts(t, 6, func(t *testing.T, c api.Config, r *rand.Rand) {
		s := newScript(t, c)
		one := func() int { return wild[r.Intn(len(wild))] }
		for range 3000 {
			for range r.Intn(3) {
				s.try(someStep(r, c))
			}
			step := api.Step{Kind: r.Intn(13) - 1, At: one(), N: one(), Max: one(), Keep: []int{one(), one(), one()}}
			if r.Intn(2) == 0 {
				step.At = r.Intn(3)
			}
			step.Records = []api.Record{{Offset: one(), Key: strings.Repeat("k", r.Intn(70))}}
			s.try(step)
			if n := one(); n < 0 || n > 7 {
				s.checkNoNode(n)
			}
			if n := one(); n < 0 || n >= c.Clients {
				s.checkAsked(n, 0, 0)
			}
		}
		s.checkAsks()
	})
}

// large are records of about a million bytes, that layer 14 takes, and a node does not.
func large() []api.Record {
	var out []api.Record
	for range 250 {
		out = append(out, api.Record{Value: strings.Repeat("x", api.MaxValue)})
	}
	return out
}

// kept is how many bytes of memory more are kept behind what is done than ahead of it.
func kept(do func()) int {
	var before, behind runtime.MemStats
	runtime.GC()
	runtime.ReadMemStats(&before)
	do()
	runtime.GC()
	runtime.ReadMemStats(&behind)
	return int(behind.HeapAlloc) - int(before.HeapAlloc)
}

// R1: what a client asks again and again is kept once.
func TestR1AskedAgain(t *testing.T) {
	s := newScript(t, config(3))
	s.submit(0, large())
	if more := kept(func() {
		for range 2000 {
			s.tickClient(0)
		}
	}); more > 1<<23 {
		t.Error("so many bytes more are kept:", more)
	}
	want(t, "Under", s.x.Under(), 2001)
}

// R1: of what was answered for good, and of messages that arrived or were lost, nothing is kept.
func TestR1Forgotten(t *testing.T) {
	x, _ := cluster.New(config(3))
	if more := kept(func() {
		for range 60 {
			x.Step(api.Step{Kind: api.StepSubmit, Records: large()})
			x.Step(api.Step{Kind: api.StepSubmit, At: 1, Records: large()})
			x.Step(api.Step{Kind: api.StepDrop})
			x.Step(api.Step{Kind: api.StepTwice})
		}
		for range 30 {
			x.Step(api.Step{Kind: api.StepDeliver, Max: 100})
			x.Step(api.Step{Kind: api.StepClient})
			x.Step(api.Step{Kind: api.StepClient, At: 1})
		}
	}); more > 1<<23 {
		t.Error("so many bytes more are kept:", more)
	}
	want(t, "Under", x.Under(), 0)
	for client := range 2 {
		if given, done := x.Asked(client); given != 60 || done != 60 {
			t.Error("Asked:", given, done)
		}
	}
}

// R1: the same of messages that stood in the midst of a list.
func TestR1Arrived(t *testing.T) {
	c := config(3)
	c.Clients = 16
	x, _ := cluster.New(c)
	if more := kept(func() {
		for range 100 {
			x.Step(api.Step{Kind: api.StepTick})
		}
		for client := range c.Clients {
			x.Step(api.Step{Kind: api.StepSubmit, At: client, Records: large()})
		}
		x.Step(api.Step{Kind: api.StepDeliver, Max: math.MaxInt})
	}); more > 1<<22 {
		t.Error("so many bytes more are kept:", more)
	}
	want(t, "acks", len(x.Acks()), c.Clients)
}

// R1: a long list of messages is gone through in little time, also in its midst.
func TestR1ManyMessages(t *testing.T) {
	s := newScript(t, config(7))
	for s.x.Steps() < 30000 {
		s.tick(0)
	}
	want(t, "Under", s.x.Under(), 180000)
	for n := range 3000 {
		s.do(api.Step{Kind: api.StepDrop, N: n * n})
	}
	s.do(api.Step{Kind: api.StepDeliver, Max: math.MaxInt})
	want(t, "Under", s.x.Under(), 0)
}

// R2: what is refused changes nothing that a later step could tell, and beside an error there is no cluster.
func TestR2Refused(t *testing.T) {
	if x, e := cluster.New(api.Config{}); x != nil || e != api.ErrArg {
		t.Error(x, e)
	}
	inScripts(t, 9, func(t *testing.T, c api.Config, r *rand.Rand) {
		a, b := newScript(t, c), newScript(t, c)
		refused := refusals(c)
		for i := range 1000 {
			step := someStep(r, c)
			e := a.try(step)
			for name, wrong := range refused {
				if r.Intn(20) == 0 {
					want(t, name, b.try(wrong), api.ErrArg)
				}
			}
			for node := range c.Nodes {
				if b.x.Runs(node) {
					want(t, "runs", b.try(api.Step{Kind: api.StepStart, At: node}), api.ErrArg)
				} else {
					want(t, "down", b.try(api.Step{Kind: api.StepCrash, At: node}), api.ErrDown)
				}
			}
			want(t, "Step", b.try(step), e)
			if i%50 == 49 && state(a.x, c) != state(b.x, c) {
				t.Fatal("what was refused is to be told, behind", i)
			}
		}
	})
}

// R3: what is handed in is neither changed nor kept, nor read beyond its end.
func TestR3HandedIn(t *testing.T) {
	s := newScript(t, config(3))
	room := body("a", "1", "b", "2", "c", "3")
	for i := range room {
		room[i].Offset = 7 - i
	}
	was := slices.Clone(room)
	s.do(api.Step{Kind: api.StepSubmit, Records: room[:1]})
	s.do(api.Step{Kind: api.StepSubmit, Records: room[:2]})
	if !slices.Equal(room, was) {
		t.Error("the records were changed:", room)
	}
	for i := range room {
		room[i] = api.Record{Key: "x"}
	}
	s.deliver(100)
	want(t, "told", told(s.fetch(0, 0, 9)), "0a=1 1a=1 2b=2 ")

	keep := []int{1, 2, 3, 4, 5}
	s.crash(1, keep[:2]...)
	s.do(api.Step{Kind: api.StepCrash, At: 2, Keep: keep[:3]})
	if !slices.Equal(keep, []int{1, 2, 3, 4, 5}) {
		t.Error("Keep was changed:", keep)
	}
}

// R3: also the bytes of keys and values that wait for their turn are not those that were handed in.
func TestR3NotKept(t *testing.T) {
	bytes := []byte("key and value")
	text := unsafe.String(&bytes[0], len(bytes))
	s := newScript(t, config(3))
	s.submit(0, body("a", "1"))
	s.submit(0, []api.Record{{Key: text[:3], Value: text[8:]}})
	copy(bytes, "other bytes..")
	s.deliver(100)
	want(t, "told", told(s.fetch(0, 0, 9)), "0a=1 1key=value ")
}

// R3: answers are new memory: what becomes of them does not change what is told later.
func TestR3Answers(t *testing.T) {
	s := newScript(t, config(3))
	for i := range 3 {
		s.submit(i, body("a", "1", "b", "2"))
	}
	s.deliver(100)
	s.fetch(0, 0, 9)
	s.fetch(0, 0, 9)
	was := state(s.x, s.c)
	places := map[*byte]int{}
	for range 2 {
		acks := s.x.Acks()
		for i := range acks[:cap(acks)] {
			acks[:cap(acks)][i] = api.Ack{Step: -1}
		}
		fetched := s.x.Fetched()
		for _, f := range fetched {
			for i := range f.Records[:cap(f.Records)] {
				r := &f.Records[:cap(f.Records)][i]
				if i < len(f.Records) {
					places[unsafe.StringData(r.Key)]++
					places[unsafe.StringData(r.Value)]++
				}
				*r = api.Record{Offset: -1}
			}
		}
		for i := range fetched[:cap(fetched)] {
			fetched[:cap(fetched)][i] = api.Fetched{Step: -1}
		}
		if got := state(s.x, s.c); got != was {
			t.Errorf("%s\nnot\n%s", got, was)
		}
	}
	for _, n := range places {
		want(t, "texts at one place", n, 1)
	}
}

// R4: two clusters of one script tell the same, whatever else is done meanwhile, and whatever room there is behind what is handed in.
func TestR4Same(t *testing.T) {
	inScripts(t, 12, func(t *testing.T, c api.Config, r *rand.Rand) {
		a, b, other := newScript(t, c), newScript(t, c), newScript(t, c)
		for i := range 2000 {
			step := someStep(r, c)
			e := a.try(step)
			other.try(someStep(r, c))
			b.x.Acks()
			b.x.Fetched()
			step.Records = append(make([]api.Record, 0, 300), step.Records...)
			step.Keep = append(make([]int, 0, 300), step.Keep...)
			want(t, "Step", b.try(step), e)
			if i%100 == 0 && state(a.x, c) != state(b.x, c) {
				t.Fatal("not the same, behind", i)
			}
		}
		if state(a.x, c) != state(b.x, c) {
			t.Fatal("not the same")
		}
		if state(a.x, c) == state(other.x, c) {
			t.Error("another script tells the same")
		}
	})
}

// R4: the same from a list of steps, done once more.
func TestR4Again(t *testing.T) {
	c := config(5)
	r := rand.New(rand.NewSource(1))
	var steps []api.Step
	for range 1000 {
		steps = append(steps, someStep(r, c))
	}
	first := ""
	for range 3 {
		s := newScript(t, c)
		for _, step := range steps {
			s.try(step)
		}
		got := state(s.x, c)
		if first == "" {
			first = got
		}
		want(t, "the same", got == first, true)
	}
}

package cluster_test

import (
	"math"
	"slices"
	"strconv"
	"strings"
	"testing"

	"postroad/api"
	"postroad/cluster"
	"postroad/replica"
)

// Cl1: the chapter's example.
func TestCl1Example(t *testing.T) {
	s := newScript(t, config(3))
	s.submit(0, body("k", "v"))
	s.do(api.Step{Kind: api.StepDeliver, Max: 100})
	want(t, "acks", len(s.x.Acks()), 1)
	want(t, "ack", s.x.Acks()[0], api.Ack{Step: 1, Id: id(0, 0), Base: 0, Count: 1})
}

// Cl1: New refuses what layer 16's Check refuses; else all nodes run.
func TestCl1New(t *testing.T) {
	good := config(3)
	for _, field := range []struct {
		of    func(c *api.Config) *int
		right []int
		wrong []int
	}{
		{func(c *api.Config) *int { return &c.Nodes }, []int{3, 5, 7}, []int{0, 1, 2, 4, 6, 8, 9}},
		{func(c *api.Config) *int { return &c.Clients }, []int{1, 16}, []int{0, 17}},
		{func(c *api.Config) *int { return &c.Queue }, []int{1, 64}, []int{0, 65}},
		{func(c *api.Config) *int { return &c.Segment }, []int{1, 1 << 24}, []int{0, 1<<24 + 1}},
		{func(c *api.Config) *int { return &c.Disk }, []int{1000, 1 << 24}, []int{0, 999, 1<<24 + 1}},
		{func(c *api.Config) *int { return &c.Codec }, []int{0, 1, 2}, []int{3}},
		{func(c *api.Config) *int { return &c.Patience }, []int{1, 100}, []int{0, 101}},
	} {
		for _, n := range append(field.wrong, math.MinInt, -1, math.MaxInt) {
			c := good
			*field.of(&c) = n
			if x, e := cluster.New(c); x != nil || e != api.ErrArg {
				t.Error(c, e)
			}
		}
		for _, n := range field.right {
			c := good
			*field.of(&c) = n
			s := newScript(t, c)
			want(t, "Steps", s.x.Steps(), 0)
			want(t, "Under", s.x.Under(), 0)
			want(t, "Acks", len(s.x.Acks()), 0)
			want(t, "Fetched", len(s.x.Fetched()), 0)
			for node := range c.Nodes {
				s.checkNode(node, 0, 0, 0, 0)
			}
			for client := range c.Clients {
				s.checkAsked(client, 0, 0)
			}
		}
	}
}

// checkNode holds a node that runs to what it must tell.
func (s *script) checkNode(node, view, commit, end, waiting int) {
	s.Helper()
	want(s, "Runs", s.x.Runs(node), true)
	want(s, "View", s.x.View(node), view)
	want(s, "Commit", s.x.Commit(node), commit)
	want(s, "End", s.x.End(node), end)
	want(s, "Waiting", s.x.Waiting(node), waiting)
}

// checkNoNode holds one that does not run, or that there is not, to what the chapter says.
func (s *script) checkNoNode(node int) {
	s.Helper()
	want(s, "Runs", s.x.Runs(node), false)
	for _, n := range []int{s.x.View(node), s.x.Commit(node), s.x.End(node), s.x.Waiting(node)} {
		want(s, "of no node", n, -1)
	}
}

func (s *script) checkAsked(client, given, done int) {
	s.Helper()
	a, b := s.x.Asked(client)
	if a != given || b != done {
		s.Errorf("Asked(%d): %d, %d, not %d, %d", client, a, b, given, done)
	}
}

// Cl1: what is told of nodes that there are not or that do not run, and of clients that there are not.
func TestCl1Told(t *testing.T) {
	s := newScript(t, config(3))
	s.submit(0, body("a", "1", "b", "2"))
	s.submit(0, body("c", "3"))
	s.submit(1, body("d", "4"))
	s.deliver(2)
	s.checkNode(0, 0, 0, 3, 2)
	for _, n := range []int{math.MinInt, -1, 3, 7, 100, math.MaxInt} {
		s.checkNoNode(n)
		s.checkAsked(n, 0, 0)
	}
	s.checkAsked(0, 2, 0)
	s.deliver(100)
	s.checkAsked(0, 2, 2)
	s.checkAsked(1, 1, 1)
	s.checkAsked(2, 0, 0)
	s.checkNode(0, 0, 4, 4, 0)
	s.crash(0)
	s.checkNoNode(0)
	s.start(0)
	s.checkNode(0, 0, s.x.Commit(0), 4, 0)
}

// refusals are steps that are refused by ErrArg whatever was done, by names.
func refusals(c api.Config) map[string]api.Step {
	out := map[string]api.Step{}
	add := func(name string, s api.Step) { out[name+" "+strconv.Itoa(len(out))] = s }
	for _, kind := range []int{math.MinInt, -1, 0, 11, 12, math.MaxInt} {
		add("kind", api.Step{Kind: kind})
	}
	for _, at := range []int{math.MinInt, -1, c.Nodes, 100, math.MaxInt} {
		for _, kind := range []int{api.StepTick, api.StepCrash, api.StepStart, api.StepCompact, api.StepFetch} {
			add("no node", api.Step{Kind: kind, At: at})
		}
	}
	for _, at := range []int{math.MinInt, -1, c.Clients, 100, math.MaxInt} {
		for _, kind := range []int{api.StepSubmit, api.StepClient} {
			add("no client", api.Step{Kind: kind, At: at, Records: body("k", "v")})
		}
	}
	for _, below := range []int{math.MinInt, -1} {
		for _, kind := range []int{api.StepDeliver, api.StepDrop, api.StepTwice, api.StepFetch} {
			add("N", api.Step{Kind: kind, N: below, Max: 1})
		}
		for _, kind := range []int{api.StepDeliver, api.StepFetch} {
			add("Max", api.Step{Kind: kind, Max: below})
		}
	}
	for _, n := range []int{api.MaxRecords + 1, api.MaxRecords + 2, 5000} {
		add("records", api.Step{Kind: api.StepSubmit, Records: make([]api.Record, n)})
	}
	return out
}

// state is all that a cluster tells, as a text.
func state(x *cluster.Cluster, c api.Config) string {
	var out strings.Builder
	tell := func(l ...int) {
		for _, n := range l {
			out.WriteString(strconv.Itoa(n) + " ")
		}
		out.WriteString("\n")
	}
	tell(x.Steps(), x.Under())
	for node := range c.Nodes {
		tell(x.View(node), x.Commit(node), x.End(node), x.Waiting(node))
	}
	for client := range c.Clients {
		tell(x.Asked(client))
	}
	for _, a := range x.Acks() {
		tell(a.Step, a.Id.Producer, a.Id.Seq, int(a.Err), a.Base, a.Count)
	}
	for _, f := range x.Fetched() {
		tell(f.Step, f.At, f.From, int(f.Err))
		out.WriteString(told(f.Records) + "\n")
	}
	out.WriteString(strings.Join(x.Messages(), "\n"))
	return out.String()
}

// Cl1, R2: what is refused by ErrArg changes nothing, nor does what is refused by ErrDown, of which there is more to refuse.
func TestCl1Refused(t *testing.T) {
	for _, nodes := range []int{3, 7} {
		s := newScript(t, config(nodes))
		s.submit(0, body("a", "1"))
		s.submit(1, body("b", "2"))
		s.deliver(3)
		s.fetch(0, 0, 9)
		s.crash(2)
		was := state(s.x, s.c)
		for name, step := range refusals(s.c) {
			want(t, name, s.try(step), api.ErrArg)
		}
		for _, kind := range []int{api.StepTick, api.StepCrash, api.StepCompact, api.StepFetch} {
			want(t, "down", s.try(api.Step{Kind: kind, At: 2, N: 1, Max: 1}), api.ErrDown)
		}
		want(t, "down, and N", s.try(api.Step{Kind: api.StepFetch, At: 2, N: -1}), api.ErrArg)
		want(t, "down, and Max", s.try(api.Step{Kind: api.StepFetch, At: 2, Max: -1}), api.ErrArg)
		want(t, "runs", s.try(api.Step{Kind: api.StepStart, At: 0}), api.ErrArg)
		if got := state(s.x, s.c); got != was {
			t.Errorf("what was refused has changed:\n%s\nto\n%s", was, got)
		}
		s.start(2)
		want(t, "runs", s.try(api.Step{Kind: api.StepStart, At: 2}), api.ErrArg)
	}
}

// Cl1: what a step of a kind does not look at may be anything.
func TestCl1NotLookedAt(t *testing.T) {
	s := newScript(t, config(3))
	many := make([]api.Record, 1000)
	for _, n := range []int{math.MinInt, -1, 0, 2, 3, 99, math.MaxInt} {
		s.do(api.Step{Kind: api.StepDeliver, At: n, Max: 3, Records: many, Keep: []int{n}})
		s.do(api.Step{Kind: api.StepDrop, At: n, Max: n, Records: many})
		s.do(api.Step{Kind: api.StepTwice, At: n, Max: n, Records: many})
		s.do(api.Step{Kind: api.StepSubmit, N: n, Max: n, Keep: []int{n}})
		s.do(api.Step{Kind: api.StepClient, N: n, Max: n, Records: many})
		s.do(api.Step{Kind: api.StepTick, N: n, Max: n, Records: many})
		s.do(api.Step{Kind: api.StepFetch, N: 0, Max: 1, Records: many, Keep: []int{n}})
		s.do(api.Step{Kind: api.StepCompact, N: n, Max: n, Records: many})
		s.do(api.Step{Kind: api.StepCrash, N: n, Max: n, Records: many, Keep: []int{n, n, n, n}})
		s.do(api.Step{Kind: api.StepStart, N: n, Max: n, Records: many, Keep: []int{n}})
	}
	want(t, "Steps", s.x.Steps(), 70)
}

// Cl1: MaxSteps steps, and no more; those that were refused do not count.
func TestCl1Full(t *testing.T) {
	s := newScript(t, config(3))
	s.crash(1)
	for s.x.Steps() < api.MaxSteps {
		if s.x.Steps()%9 == 0 {
			s.try(api.Step{Kind: api.StepTick, At: 1})
			s.try(api.Step{Kind: api.StepTick, At: -1})
		}
		s.do(api.Step{Kind: api.StepDrop})
	}
	was := state(s.x, s.c)
	for name, step := range refusals(s.c) {
		want(t, name, s.try(step), api.ErrArg)
	}
	for _, step := range []api.Step{
		{Kind: api.StepSubmit, Records: body("k", "v")}, {Kind: api.StepDeliver}, {Kind: api.StepDrop}, {Kind: api.StepTwice},
		{Kind: api.StepTick}, {Kind: api.StepClient}, {Kind: api.StepCrash}, {Kind: api.StepStart, At: 1}, {Kind: api.StepCompact}, {Kind: api.StepFetch},
		{Kind: api.StepTick, At: 1}, {Kind: api.StepCrash, At: 1}, {Kind: api.StepCompact, At: 1}, {Kind: api.StepFetch, At: 1}, // ErrFull goes ahead of ErrDown
	} {
		want(t, "full", s.try(step), api.ErrFull)
	}
	want(t, "Steps", s.x.Steps(), api.MaxSteps)
	if state(s.x, s.c) != was {
		t.Error("what was refused has changed it")
	}
}

// Cl1: messages arrive in the order in which they were sent, by N and round and round; what there is none of, is not done.
func TestCl1Under(t *testing.T) {
	s := newScript(t, config(5))
	for _, kind := range []int{api.StepDeliver, api.StepDrop, api.StepTwice} {
		s.do(api.Step{Kind: kind, N: 5, Max: 5})
		want(t, "Under", s.x.Under(), 0)
	}
	s.tick(0) // four messages
	for n := range 25 {
		was := s.x.Messages()
		k := len(was)
		s.do(api.Step{Kind: api.StepTwice, N: n})
		right := append(slices.Clone(was), was[n%k])
		if got := s.x.Messages(); !slices.Equal(got, right) || s.x.Under() != k+1 {
			t.Fatal("twice:", n, k)
		}
		if n%2 == 0 {
			s.do(api.Step{Kind: api.StepDrop, N: n * 7})
			right = slices.Delete(right, n*7%(k+1), n*7%(k+1)+1)
			if got := s.x.Messages(); !slices.Equal(got, right) || s.x.Under() != k {
				t.Fatal("drop:", n, k)
			}
		}
	}
	s.do(api.Step{Kind: api.StepDrop, N: math.MaxInt})
	s.do(api.Step{Kind: api.StepTwice, N: math.MaxInt})
	s.do(api.Step{Kind: api.StepDeliver, N: math.MaxInt, Max: math.MaxInt})
	want(t, "Under", s.x.Under(), 0)
}

// Cl1: what arrives at a node that does not run is lost; all else is not.
func TestCl1Down(t *testing.T) {
	s := newScript(t, config(3))
	s.submit(0, body("a", "1"))
	s.deliver(1)
	want(t, "Under", s.x.Under(), 2)
	s.crash(1)
	s.deliver(1)
	want(t, "Under", s.x.Under(), 1)
	s.start(1)
	want(t, "End", s.x.End(1), 0)
	s.deliver(1)
	want(t, "End", s.x.End(2), 1)
	s.crash(0) // what is under way to it arrives, if it runs again by then
	want(t, "Under", s.x.Under(), 1)
	s.start(0)
	s.deliver(1)
	want(t, "Commit", s.x.Commit(0), 1)
}

// Cl1: of a disk survives what was synced, and what Keep says of all else; a node runs again with that.
func TestCl1Crash(t *testing.T) {
	for _, x := range []struct{ keep, right []int }{
		{nil, []int{0, 0}}, {[]int{-1, 0}, []int{0, 0}}, {[]int{1}, []int{1, 0}}, {[]int{2, 3}, []int{2, 3}},
		{[]int{math.MinInt, math.MaxInt}, []int{0, 4}}, {[]int{4, 5, 6}, []int{4, 4}},
	} {
		s := newScript(t, config(3))
		s.submit(0, body("a", "1"))
		s.deliver(100)
		for node := range 3 {
			d := s.x.Disk(node)
			d.Append("!a", "tail")
			d.Append("!b", "tail")
			s.crash(node, x.keep...)
			s.checkNoNode(node)
			want(t, "of the first file", d.Size("!a"), x.right[0])
			want(t, "of the next file", d.Size("!b"), x.right[1])
			s.start(node)
			want(t, "End", s.x.End(node), 1)
		}
		s.checkNode(0, 0, 1, 1, 0)
	}
}

// Cl1, P3: the power of all nodes goes at once, ahead of an ack: what is synced stands, and is told anew.
func TestCl1CrashAll(t *testing.T) {
	s := newScript(t, config(3))
	s.submit(0, body("a", "1"))
	s.deliver(100)
	s.submit(0, body("b", "2"))
	s.deliver(1)
	s.dropAll()
	for node := range 3 {
		s.crash(node)
	}
	s.startAll()
	s.checkNode(0, 0, 1, 2, 0)
	want(t, "End", s.x.End(1), 1)
	s.tick(0)
	s.deliver(100)
	for node := range 3 {
		want(t, "told", told(s.fetch(node, 0, 9)), "0a=1 1b=2 ")
	}
	s.tickClient(0)
	s.deliver(100)
	s.checkAcked(0, 1, 1, 1)
}

// DOC.md's example 7: a node back behind a crash with half a batch in its file: it is cut off, and told anew.
func TestExample7(t *testing.T) {
	s := newScript(t, config(3))
	s.submit(0, body("a", "1"))
	s.deliver(100)
	s.submit(0, body("b", "2"))
	s.deliver(2)
	const name = "seg0000000000000"
	d := s.x.Disk(2)
	at := d.Size(name)
	half, e := s.x.Disk(0).Read(name, at, 20)
	want(t, "Read", e, api.OK)
	s.dropAll()
	d.Append(name, half)
	place := slices.Index(d.Names(), name)
	keep := make([]int, place+1)
	keep[place] = 20
	s.crash(2, keep...)
	want(t, "half a batch survives", d.Size(name), at+20)
	s.start(2)
	want(t, "End", s.x.End(2), 1)
	s.tick(0)
	s.deliver(100)
	want(t, "told", told(s.fetch(2, 0, 9)), "0a=1 1b=2 ")
}

// Cl1: Fetch and Fetched: which step, node and offset, and the first so many records.
func TestCl1Fetch(t *testing.T) {
	s := newScript(t, config(3))
	s.submit(0, body("a", "1", "b", "2", "c", "3"))
	s.deliver(1)
	want(t, "told", told(s.fetch(0, 0, 9)), "")
	s.deliver(100)
	s.submit(1, []api.Record{{Offset: 7, Key: "d", Gone: true}})
	s.deliver(100)
	for _, x := range []struct {
		from, most int
		right      string
	}{
		{0, 9, "0a=1 1b=2 2c=3 3d "}, {0, 2, "0a=1 1b=2 "}, {1, 2, "1b=2 2c=3 "}, {3, 1, "3d "}, {2, 0, ""}, {4, 9, ""},
		{0, math.MaxInt, "0a=1 1b=2 2c=3 3d "}, {math.MaxInt, math.MaxInt, ""},
	} {
		want(t, "told", told(s.fetch(0, x.from, x.most)), x.right)
		l := s.x.Fetched()
		f := l[len(l)-1]
		if f.Step != s.x.Steps()-1 || f.At != 0 || f.From != x.from || f.Err != api.OK {
			t.Error(f)
		}
	}
	s.tick(0)
	s.deliver(100)
	want(t, "told", told(s.fetch(2, 2, 9)), "2c=3 3d ")
	l := s.x.Fetched()
	want(t, "Fetched", len(l), 10)
	want(t, "Step", l[0].Step, 2)
	want(t, "At", l[9].At, 2)
}

// Cl1: Compact, also where nothing is to be dropped, and on a disk without room.
func TestCl1Compact(t *testing.T) {
	c := config(3)
	c.Segment = 1
	s := newScript(t, c)
	for i, key := range []string{"a", "b", "a"} {
		s.submit(0, body(key, strconv.Itoa(i)))
		s.deliver(100)
	}
	s.submit(0, body("z", "")) // the segment ahead of it is closed
	s.deliver(100)
	want(t, "told", told(s.fetch(0, 0, 9)), "0a=0 1b=1 2a=2 3z= ")
	for range 2 {
		s.do(api.Step{Kind: api.StepCompact, At: 0})
		want(t, "told", told(s.fetch(0, 0, 9)), "1b=1 2a=2 3z= ")
		want(t, "told", told(s.fetch(0, 0, 1)), "1b=1 ")
	}
	want(t, "told", told(s.fetch(1, 0, 1)), "0a=0 ")
}

// Cl1: a compaction for which the disk has no room is a step that is done.
func TestCl1CompactFull(t *testing.T) {
	c := config(3)
	c.Disk, c.Segment = 1000, 500
	s := newScript(t, c)
	for i := range 20 {
		s.submit(0, body(strconv.Itoa(i%2*i), strings.Repeat("x", 60)))
		s.deliver(100)
	}
	want(t, "answered", s.last(0).Err, api.ErrDisk)
	n, e := replica.New(c, 0, s.x.Disk(0).Copy())
	want(t, "New", e, api.OK)
	_, e = n.Compact()
	want(t, "Compact", e, api.ErrDisk)
	was := told(s.fetch(0, 0, 99))
	steps := s.x.Steps()
	s.do(api.Step{Kind: api.StepCompact, At: 0})
	want(t, "Steps", s.x.Steps(), steps+1)
	want(t, "told", told(s.fetch(0, 0, 99)), was)
}

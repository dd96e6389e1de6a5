package replica_test

import (
	"math"
	"math/rand"
	"runtime"
	"slices"
	"strings"
	"testing"

	"postroad/api"
	"postroad/replica"
)

// R1: nodes that New did not give.
func TestR1NotGiven(t *testing.T) {
	s := newSim(t, config(3))
	s.ask(100, 0, id(0, 0), body("k", "v"))
	byValue := *s.nodes[0]
	for _, n := range []*replica.Node{nil, {}, new(replica.Node), &byValue} {
		if out := n.Receive(bytesOf(t, asking(100, 0, id(0, 0), body("k", "v")))); len(out) > 0 {
			t.Error(out)
		}
		if out := n.Receive(""); len(out) > 0 {
			t.Error(out)
		}
		if out := n.Tick(); len(out) > 0 {
			t.Error(out)
		}
		want(t, "View", n.View(), 0)
		want(t, "Primary", n.Primary(), false)
		want(t, "Commit", n.Commit(), 0)
		want(t, "End", n.End(), 0)
		want(t, "Waiting", n.Waiting(), 0)
		for _, args := range [][2]int{{0, 9}, {-1, 0}, {0, -1}} {
			if l, e := n.Fetch(args[0], args[1]); l != nil || e != api.ErrArg {
				t.Error(l, e)
			}
		}
		k, e := n.Compact()
		want(t, "Compact", k, 0)
		want(t, "Compact", e, api.ErrArg)
	}
	s.settle()
	s.checkAnswer(100, api.OK, 0, 1)
}

// R1: each call ends at all arguments.
func TestR1Ends(t *testing.T) {
	wild := []int{math.MinInt, math.MinInt + 1, -1, 0, 1, 3, 7, 16, 100, 1000, 1 << 24, 1 << 31, 1 << 40, math.MaxInt - 1, math.MaxInt}
	s := newSim(t, config(3))
	for _, a := range wild {
		for _, b := range wild {
			c := api.Config{Nodes: a, Clients: b, Queue: a, Segment: b, Disk: a, Codec: b, Patience: a}
			want(t, "Check", replica.Check(c), api.ErrArg)
			replica.New(c, a, newDisk(t, 1000))
			c = config(3)
			c.Segment, c.Disk = a, b
			replica.New(c, 0, newDisk(t, 1000))
			replica.New(config(3), a, nil)
			s.nodes[0].Fetch(a, b)
		}
		var texts []string
		for _, filling := range []string{"\x00", "\x01", "\x7f", "\x80", "\xff"} {
			texts = append(texts, strings.Repeat(filling, max(0, min(a, 1<<20+1))))
		}
		for _, text := range texts {
			if out := s.nodes[0].Receive(text); len(out) > 0 {
				t.Error(out)
			}
		}
	}
}

// R1: a node that nobody hears goes on for ever, and no more is kept for that.
func TestR1Alone(t *testing.T) {
	s := newSim(t, config(3))
	s.ask(100, 0, id(0, 0), body("k", "v"))
	s.under = nil
	var before, behind runtime.MemStats
	runtime.GC()
	runtime.ReadMemStats(&before)
	for range 20000 {
		for node, n := range s.nodes {
			if out := n.Tick(); len(out) > 4 {
				t.Fatal(node, len(out))
			}
		}
	}
	runtime.GC()
	runtime.ReadMemStats(&behind)
	if more := int64(behind.HeapAlloc) - int64(before.HeapAlloc); more > 1<<18 {
		t.Error("so many bytes more are kept:", more)
	}
	for node := range s.nodes {
		want(t, "View", s.nodes[node].View(), 0)
	}
	for range rounds(s.c) {
		s.round()
	}
	s.checkWorks()
}

// R2: what is refused has changed nothing that a later call could tell.
func TestR2Refused(t *testing.T) {
	inChaos(t, 9, func(x *chaos) {
		same := newChaos(x, x.c, 5)
		x.Rand = rand.New(rand.NewSource(5))
		for range 300 {
			x.step()
			same.step()
			for _, node := range x.running() {
				n := x.nodes[node]
				n.Fetch(-1, 5)
				n.Fetch(5, -1)
				n.Fetch(0, 100)
				replica.New(x.c, -1, x.disks[node])
				replica.New(x.c, x.c.Nodes, x.disks[node])
				replica.New(api.Config{}, node, x.disks[node])
			}
			if !slices.Equal(x.under, same.under) {
				x.Fatal("what was refused is told")
			}
		}
	})
}

// R3: answers are new memory: what becomes of them does not change what is told later.
func TestR3NewMemory(t *testing.T) {
	s := newSim(t, config(3))
	for i := range 3 {
		s.ask(100, 0, id(0, i), body("a", "1", "b", "2"))
		s.settle()
	}
	for range 2 {
		l := s.committed(0)
		want(t, "records", len(l), 6)
		for _, r := range l[len(l):cap(l)] {
			if r != (api.Record{}) {
				t.Error("in the spare room:", r)
			}
		}
		for i := range l[:cap(l)] {
			l[:cap(l)][i] = api.Record{Offset: -1}
		}
	}
	out := s.nodes[0].Tick()
	want(t, "messages", len(out), 2)
	other := s.nodes[0].Tick()
	for i := range out {
		out[i] = "changed"
	}
	for _, one := range other {
		messageOf(t, one)
	}
	s.checkAll()
}

// R4: the same calls on nodes on the same disks are answered the same, and nodes know nothing of one another.
func TestR4Same(t *testing.T) {
	for range 3 {
		x := newChaos(t, config(5), 5)
		y := newChaos(t, config(5), 5)
		for range 1000 {
			x.step()
			y.step()
			if !slices.Equal(x.under, y.under) || len(x.answers) != len(y.answers) {
				t.Fatal("not the same")
			}
		}
		for node := range x.c.Nodes {
			if files(x.disks[node]) != files(y.disks[node]) {
				t.Error("another disk:", node)
			}
		}
	}
}

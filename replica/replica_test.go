package replica_test

import (
	"math"
	"slices"
	"strconv"
	"strings"
	"sync/atomic"
	"testing"

	"postroad/api"
	"postroad/batch"
	"postroad/compact"
	"postroad/replica"
	"postroad/seglog"
	"postroad/vdisk"
)

// last is the last answer that a client got.
func (s *sim) last(client int) api.Message {
	s.Helper()
	for i := len(s.answers) - 1; i >= 0; i-- {
		if s.answers[i].To == client {
			return s.answers[i]
		}
	}
	return api.Message{}
}

// checkAnswer holds the last answer to a client to what it must be, and takes it away.
func (s *sim) checkAnswer(client int, e api.Errno, base, end int) {
	s.Helper()
	m := s.last(client)
	if m.Kind != api.MsgAnswer || m.Err != e || m.Base != base || m.End != end {
		s.Errorf("%d was answered %d, %d to %d, not %d, %d to %d", client, m.Err, m.Base, m.End, e, base, end)
	}
	s.answers = slices.DeleteFunc(s.answers, func(a api.Message) bool { return a.To == client })
}

func (s *sim) checkUnanswered(client int) {
	s.Helper()
	if m := s.last(client); m.Kind != 0 {
		s.Error("answered already:", m)
	}
}

// files are all of a disk, as a text.
func files(d *vdisk.Disk) string {
	var out strings.Builder
	for _, name := range d.Names() {
		s, _ := d.Read(name, 0, d.Size(name))
		out.WriteString(name + " " + strconv.Itoa(d.Synced(name)) + " " + s + "\n")
	}
	return out.String()
}

// Rp1: configurations, each number at its edges.
func TestRp1Check(t *testing.T) {
	good := config(3)
	want(t, "Check", replica.Check(good), api.OK)
	wild := []int{math.MinInt, -3, -1, 0, math.MaxInt - 1, math.MaxInt}
	for name, field := range map[string]struct {
		of    func(c *api.Config) *int
		right []int
		wrong []int
	}{
		"Nodes":    {func(c *api.Config) *int { return &c.Nodes }, []int{3, 5, 7}, []int{1, 2, 4, 6, 8, 9, 11}},
		"Clients":  {func(c *api.Config) *int { return &c.Clients }, []int{1, 2, 15, 16}, []int{17, 155}},
		"Queue":    {func(c *api.Config) *int { return &c.Queue }, []int{1, 2, 63, 64}, []int{65}},
		"Segment":  {func(c *api.Config) *int { return &c.Segment }, []int{1, 2, 1<<24 - 1, 1 << 24}, []int{1<<24 + 1}},
		"Disk":     {func(c *api.Config) *int { return &c.Disk }, []int{1000, 1001, 1 << 24}, []int{1, 999, 1<<24 + 1}},
		"Codec":    {func(c *api.Config) *int { return &c.Codec }, []int{0, 1, 2}, []int{3}},
		"Patience": {func(c *api.Config) *int { return &c.Patience }, []int{1, 2, 99, 100}, []int{101}},
	} {
		for _, n := range field.right {
			c := good
			*field.of(&c) = n
			want(t, name+" "+strconv.Itoa(n), replica.Check(c), api.OK)
			x, e := replica.New(c, 0, newDisk(t, 1<<16))
			if e != api.OK || !x.Primary() {
				t.Error(name, n, e)
			}
		}
		for _, n := range append(field.wrong, wild...) {
			if slices.Contains(field.right, n) {
				continue
			}
			c := good
			*field.of(&c) = n
			want(t, name+" "+strconv.Itoa(n), replica.Check(c), api.ErrArg)
			d := newDisk(t, 1000)
			x, e := replica.New(c, 0, d)
			if x != nil || e != api.ErrArg || len(d.Names()) > 0 {
				t.Error(name, n, e, d.Names())
			}
		}
	}
}

// Rp1: nodes that may not be, and disks that are none; what was refused has left the disk as it was.
func TestRp1New(t *testing.T) {
	for _, nodes := range []int{3, 5, 7} {
		c := config(nodes)
		for _, number := range []int{math.MinInt, -1, nodes, nodes + 1, 100, math.MaxInt} {
			d := newDisk(t, 1000)
			d.Append("seg0000000000007", "the log would take this away")
			was := files(d)
			if n, e := replica.New(c, number, d); n != nil || e != api.ErrArg || files(d) != was {
				t.Error(number, e, files(d))
			}
		}
		byValue := *newDisk(t, 1000)
		for _, d := range []*vdisk.Disk{nil, {}, &byValue} {
			for number := range nodes {
				if n, e := replica.New(c, number, d); n != nil || e != api.ErrArg {
					t.Error(number, e)
				}
			}
		}
		for number := range nodes {
			n, e := replica.New(c, number, newDisk(t, 1000))
			if e != api.OK || n.View() != 0 || n.Commit() != 0 || n.End() != 0 || n.Waiting() != 0 || n.Primary() != (number == 0) {
				t.Error(number, e, n.View(), n.Commit(), n.End(), n.Waiting(), n.Primary())
			}
		}
	}
}

// Rp1: a disk of 200 bytes, one that is full, and one of others' files.
func TestRp1NewRoom(t *testing.T) {
	for _, room := range []int{0, 31, 32, 63, 64, 199, 200, 1000} {
		d := newDisk(t, room)
		n, e := replica.New(config(3), 0, d)
		if e != api.OK || !n.Primary() || n.View() != 0 || n.End() != 0 {
			t.Error(room, e)
			continue
		}
		d.Append("other", strings.Repeat("x", room-d.Used()))
		n, e = replica.New(config(3), 0, d)
		if e != api.OK || !n.Primary() {
			t.Error(room, e)
			continue
		}
		out := n.Receive(bytesOf(t, asking(100, 0, id(0, 0), body("k", "v"))))
		if len(out) != 1 || messageOf(t, out[0]).Err != api.ErrDisk || n.End() != 0 || n.Waiting() != 0 {
			t.Error(room, out, n.End())
		}
	}
}

// Rp1: a disk with as many files as there may be: what could not be committed is not begun. When there is room again, all is well.
func TestRp1NewFilesFull(t *testing.T) {
	for free := range 4 {
		c := config(3)
		c.Segment = 5000
		s := newSim(t, c)
		d := newDisk(t, 10000)
		l, e := seglog.Open(d, c.Segment)
		want(t, "Open", e, api.OK)
		b, e := batch.Bytes(api.Batch{Count: 1, Producer: 9}, api.CodecNone)
		want(t, "Bytes", e, api.OK)
		want(t, "Append", l.Append(b), api.OK)
		for i := 0; len(d.Names()) < api.MaxFiles-free; i++ {
			want(t, "Append", d.Append("other"+strconv.Itoa(i), "x"), api.OK)
		}
		s.disks[0] = d
		s.start(0)
		want(t, "End", s.nodes[0].End(), 1)
		s.ask(100, 0, id(0, 0), body("k", "v"))
		s.settle()
		if free < 2 {
			s.checkAnswer(100, api.ErrDisk, 0, 0)
			want(t, "End", s.nodes[0].End(), 1)
			d.Remove("other0")
			d.Remove("other1")
			s.ask(100, 0, id(0, 0), body("k", "v"))
			s.settle()
		}
		s.checkAnswer(100, api.OK, 1, 2)
	}
}

// Rp1: a node whose log lost what was committed, by another than itself, tells no more than there is.
func TestRp1LogLost(t *testing.T) {
	s := newSim(t, config(3))
	s.ask(100, 0, id(0, 0), body("k", "v"))
	s.settle()
	s.round()
	s.crash(2, nil)
	for _, name := range s.disks[2].Names() {
		if strings.HasPrefix(name, "seg") {
			s.disks[2].Remove(name)
		}
	}
	s.start(2)
	want(t, "Commit", s.nodes[2].Commit(), 0)
	s.round()
	want(t, "Commit", s.nodes[2].Commit(), 1)
	s.checkAll()
}

// Rp1: the chapter's example: a client is answered when one of the others has told that the batch stands.
func TestRp1Example(t *testing.T) {
	s := newSim(t, config(3))
	s.ask(100, 0, id(0, 0), body("a", "1", "b", "2"))
	want(t, "Waiting", s.nodes[0].Waiting(), 1)
	want(t, "End", s.nodes[0].End(), 2)
	want(t, "Commit", s.nodes[0].Commit(), 0)
	s.checkUnanswered(100)
	s.under = slices.DeleteFunc(s.under, func(one string) bool { return messageOf(t, one).To == 2 })
	want(t, "messages", len(s.under), 1)
	s.arrive(0)
	want(t, "End", s.nodes[1].End(), 2)
	s.checkUnanswered(100)
	want(t, "messages", len(s.under), 1)
	s.arrive(0)
	s.checkAnswer(100, api.OK, 0, 2)
	want(t, "Waiting", s.nodes[0].Waiting(), 0)
	want(t, "Commit", s.nodes[0].Commit(), 2)
	s.checkAll()
}

// Rp1: of five and seven nodes, as many others must have told as make a majority with the primary; the same ones more than once are not more.
func TestRp1Majority(t *testing.T) {
	for _, nodes := range []int{3, 5, 7} {
		s := newSim(t, config(nodes))
		s.ask(100, 0, id(0, 0), body("k", "v"))
		prepared := slices.Clone(s.under)
		for told := 1; told <= nodes/2; told++ {
			s.checkUnanswered(100)
			want(t, "Commit", s.nodes[0].Commit(), 0)
			for range 3 {
				s.under = []string{prepared[told-1]}
				s.arrive(0)
				if told < nodes/2 {
					s.settle()
				}
			}
			s.settle()
		}
		s.checkAnswer(100, api.OK, 0, 1)
	}
}

// Rp1, P4: what is asked for once more has the same offsets, by whichever client and at whichever primary.
func TestRp1Again(t *testing.T) {
	s := newSim(t, config(3))
	one := body("a", "1", "b", "2")
	for i := range 4 {
		for _, client := range []int{100, 101, 102, 100} {
			s.ask(client, 0, id(5, i), one)
			s.ask(client, 0, id(5, i), body("other", "records"))
			s.settle()
			s.checkAnswer(client, api.OK, 2*i, 2*i+2)
		}
	}
	s.toNextView(0)
	for i := range 4 {
		s.ask(100, 1, id(5, i), one)
		s.checkAnswer(100, api.OK, 2*i, 2*i+2)
	}
	s.ask(100, 1, id(5, 9), one)
	s.settle()
	s.checkAnswer(100, api.OK, 8, 10)
	s.start(0)
	want(t, "End", s.nodes[0].End(), 10)
	s.round()
	s.checkAll()
}

// Rp1: whoever asks for one batch while it waits is answered, each one once.
func TestRp1AllWhoWait(t *testing.T) {
	s := newSim(t, config(3))
	for _, client := range []int{101, 100, 102, 101, 101} {
		s.ask(client, 0, id(7, 7), body("k", "v"))
	}
	want(t, "Waiting", s.nodes[0].Waiting(), 3)
	want(t, "End", s.nodes[0].End(), 1)
	s.settle()
	want(t, "answers", len(s.answers), 3)
	for i, client := range []int{101, 100, 102} {
		want(t, "To", s.answers[i].To, client)
	}
	want(t, "Waiting", s.nodes[0].Waiting(), 0)
}

// Rp1: one that is no primary says so at once, whatever it is asked.
func TestRp1ErrPrimary(t *testing.T) {
	s := newSim(t, config(5))
	s.ask(100, 0, id(0, 0), body("k", "v"))
	s.settle()
	s.checkAnswer(100, api.OK, 0, 1)
	for node := 1; node < 5; node++ {
		for _, records := range [][]api.Record{nil, body("k", "v"), tooLarge()} {
			s.ask(101, node, id(0, 0), records)
			s.checkAnswer(101, api.ErrPrimary, 0, 0)
			s.ask(101, node, id(1<<31, 1<<40), records)
			s.checkAnswer(101, api.ErrPrimary, 0, 0)
		}
		want(t, "End", s.nodes[node].End(), 1)
	}
	want(t, "messages", len(s.under), 0)
}

// tooLarge are records of which each may be, and all are more than may be asked for.
func tooLarge() []api.Record {
	var out []api.Record
	for i := range 16 {
		out = append(out, api.Record{Offset: i, Key: "k", Value: strings.Repeat("v", 4096)})
	}
	return out
}

// Rp1, P6: what is too large is nowhere in the log.
func TestRp1ErrLarge(t *testing.T) {
	s := newSim(t, config(3))
	for i, records := range [][]api.Record{nil, tooLarge(), tooLarge()[:15]} {
		s.ask(100, 0, id(0, i), records)
		if i == 2 {
			s.settle()
			s.checkAnswer(100, api.OK, 0, 15)
			break
		}
		s.checkAnswer(100, api.ErrLarge, 0, 0)
		want(t, "End", s.nodes[0].End(), 0)
		want(t, "Waiting", s.nodes[0].Waiting(), 0)
		want(t, "messages", len(s.under), 0)
	}
	// What no batch can have as numbers it is no use to ask for again.
	for _, i := range []api.Id{id(1<<31, 0), id(0, 1<<31), id(1<<40, 1<<40)} {
		s.ask(100, 0, i, body("k", "v"))
		s.checkAnswer(100, api.ErrLarge, 0, 0)
	}
	s.ask(100, 0, id(1<<31-1, 1<<31-1), body("k", "v"))
	s.settle()
	s.checkAnswer(100, api.OK, 15, 16)
}

// Rp1, P6: never more wait than may; what met a full queue is nowhere in the log, and is taken when it is asked for again.
func TestRp1ErrQueue(t *testing.T) {
	for _, queue := range []int{1, 2, 3} {
		c := config(3)
		c.Queue = queue
		s := newSim(t, c)
		for i := range queue {
			s.ask(100, 0, id(0, i), body("k", "v"))
		}
		lost := s.under
		s.under = nil
		for range 3 {
			s.ask(101, 0, id(1, 0), body("k", "v"))
			s.checkAnswer(101, api.ErrQueue, 0, 0)
			s.ask(101, 0, id(0, 0), nil)
			s.checkAnswer(101, api.ErrQueue, 0, 0)
			want(t, "Waiting", s.nodes[0].Waiting(), queue)
			want(t, "End", s.nodes[0].End(), queue)
		}
		s.under = lost
		s.settle()
		s.checkAnswer(100, api.OK, queue-1, queue)
		s.ask(101, 0, id(1, 0), body("k", "v"))
		s.settle()
		s.checkAnswer(101, api.OK, queue, queue+1)
		s.checkAll()
	}
}

// Rp1, P6: a full disk is told, and leaves no trace; what stood is there, and the node takes part in views to come.
func TestRp1ErrDisk(t *testing.T) {
	for _, segment := range []int{1, 200, 5000} {
		c := config(3)
		c.Disk, c.Segment = 1000, segment
		s := newSim(t, c)
		i := 0
		for {
			s.ask(100, 0, id(0, i), body("k"+strconv.Itoa(i), "v"))
			s.settle()
			if s.last(100).Err != api.OK {
				break
			}
			i++
		}
		if i < 15 {
			t.Error("so few batches are taken:", i)
		}
		for range 3 {
			s.checkAnswer(100, api.ErrDisk, 0, 0)
			want(t, "End", s.nodes[0].End(), i)
			want(t, "Waiting", s.nodes[0].Waiting(), 0)
			want(t, "messages", len(s.under), 0)
			s.ask(100, 0, id(0, i), body("k"+strconv.Itoa(i), "v"))
		}
		s.toNextView(0)
		s.crash(1, nil)
		s.start(1)
		want(t, "View", s.nodes[1].View(), 1)
		want(t, "Commit", s.nodes[1].Commit(), i)
		s.ask(101, 1, id(0, 0), nil)
		s.checkAnswer(101, api.OK, 0, 1)
		s.checkAll()
	}
}

// Rp1: a primary that another one follows tells all who wait.
func TestRp1Dismissed(t *testing.T) {
	s := newSim(t, config(3))
	s.side[0] = 1
	s.ask(100, 0, id(0, 0), body("k", "v"))
	s.ask(101, 0, id(1, 0), body("k", "w"))
	s.ask(102, 0, id(1, 0), body("k", "w"))
	s.settle()
	for range s.c.Patience + 3 {
		s.round()
	}
	want(t, "Waiting", s.nodes[0].Waiting(), 3)
	s.side[0] = 0
	s.round()
	for _, client := range []int{100, 101, 102} {
		s.checkAnswer(client, api.ErrPrimary, 0, 0)
	}
	want(t, "Waiting", s.nodes[0].Waiting(), 0)
	want(t, "Primary", s.nodes[0].Primary(), false)
	want(t, "End", s.nodes[0].End(), 0) // no majority had it
	s.ask(100, 1, id(0, 0), body("k", "v"))
	s.settle()
	s.checkAnswer(100, api.OK, 0, 1)
}

// Rp1: what a client asks of a primary is answered without a tick, if f others in its view hear it and are heard: whatever was lost ahead.
func TestRp1WithoutTick(t *testing.T) {
	inChaos(t, 18, func(x *chaos) {
		done := 0
		for range 120 {
			for range 20 {
				x.step()
			}
			at := x.primary()
			if at < 0 {
				continue
			}
			others := slices.DeleteFunc(x.running(), func(node int) bool {
				return node == at || x.nodes[node].View() != x.nodes[at].View()
			})
			if len(others) < x.c.Nodes/2 {
				continue
			}
			x.Shuffle(len(others), func(i, j int) { others[i], others[j] = others[j], others[i] })
			was := slices.Clone(x.side)
			x.under = nil
			for node := range x.side {
				x.side[node] = 1
			}
			for _, node := range append(others[:x.c.Nodes/2], at) {
				x.side[node] = 0
			}
			x.answers = nil
			i := id(9, x.Intn(30)) // some of them are asked for more than once
			x.ask(100, at, i, body("k", "v"))
			full := x.nodes[at].Waiting() == x.c.Queue
			x.settle()
			x.side = was
			m := x.last(100)
			if m.Err == api.ErrQueue && full {
				continue
			}
			if m.Err != api.OK || m.Id != i {
				x.Fatal("not answered:", m)
			}
			done++
		}
		if done < 10 {
			x.Error("so seldom asked:", done)
		}
	})
}

// Rp1: a client's batch that is asked for again is answered, though all that was told of it was lost.
func TestRp1AskedAgain(t *testing.T) {
	for lost := range 3 {
		s := newSim(t, config(3))
		s.ask(100, 0, id(0, 0), body("k", "v"))
		if lost == 2 {
			s.arrive(0) // only the answer to it is lost
		}
		s.under = nil
		if lost == 1 {
			s.crash(0, nil)
			s.start(0)
			want(t, "Primary", s.nodes[0].Primary(), true)
		}
		s.checkUnanswered(100)
		s.ask(100, 0, id(0, 0), body("k", "v"))
		s.checkUnanswered(100)
		s.settle()
		s.checkAnswer(100, api.OK, 0, 1)
		want(t, "End", s.nodes[0].End(), 1)
	}
}

// Rp1: Fetch at all offsets and numbers, below Commit alone.
func TestRp1Fetch(t *testing.T) {
	s := newSim(t, config(3))
	for i := range 6 {
		s.ask(100, 0, id(0, i), body("a", "1", "b"+strconv.Itoa(i), "2"))
		s.settle()
	}
	s.side[0] = 1
	s.ask(100, 0, id(0, 6), body("c", "3"))
	want(t, "End", s.nodes[0].End(), 13)
	want(t, "Commit", s.nodes[0].Commit(), 12)
	for _, compacted := range []bool{false, true} {
		if compacted {
			_, e := s.nodes[0].Compact()
			want(t, "Compact", e, api.OK)
		}
		all := s.committed(0)
		for offset := range 15 {
			for _, most := range []int{0, 1, 2, 5, 12, 13, math.MaxInt} {
				got, e := s.nodes[0].Fetch(offset, most)
				right := slices.DeleteFunc(slices.Clone(all), func(r api.Record) bool { return r.Offset < offset })
				right = right[:min(most, len(right))]
				if e != api.OK || !slices.Equal(got, right) {
					t.Error(offset, most, got, e)
				}
			}
		}
		if !compacted && len(all) != 12 || compacted && len(all) >= 12 {
			t.Error(compacted, all)
		}
		for _, no := range []int{-1, math.MinInt} {
			for _, other := range []int{0, 5, math.MaxInt, -1} {
				for _, args := range [][2]int{{no, other}, {other, no}} {
					if l, e := s.nodes[0].Fetch(args[0], args[1]); l != nil || e != api.ErrArg {
						t.Error(args, l, e)
					}
				}
			}
		}
		l, e := s.nodes[0].Fetch(math.MaxInt, math.MaxInt)
		if len(l) != 0 || e != api.OK {
			t.Error(l, e)
		}
	}
}

// Rp1: Compact is layer 13's Run of the log, below Commit, by the codec.
func TestRp1Compact(t *testing.T) {
	var dropped atomic.Int64
	inChaos(t, 12, func(x *chaos) {
		x.compact = false
		x.keys = 3
		for range 10 {
			x.steps(100)
			for _, node := range x.running() {
				d := x.disks[node].Copy()
				l, e := seglog.Open(d, x.c.Segment)
				want(x, "Open", e, api.OK)
				n, e := compact.Run(l, x.nodes[node].Commit(), x.c.Codec)
				gotN, gotE := x.nodes[node].Compact()
				if gotN != n || gotE != e {
					x.Error(gotN, n, gotE, e)
				}
				if files(x.disks[node]) != files(d) {
					x.Error("another disk:", node)
				}
				dropped.Add(int64(gotN))
				x.checkOneLog(node)
			}
		}
	})
	t.Cleanup(func() {
		if dropped.Load() == 0 {
			t.Error("nothing was dropped")
		}
	})
}

// Rp1: a disk on which there is no room to compact says so, and all is as it was.
func TestRp1CompactNoRoom(t *testing.T) {
	c := config(3)
	c.Disk, c.Segment = 1000, 300
	s := newSim(t, c)
	for i := 0; s.last(100).Err == api.OK; i++ {
		s.ask(100, 0, id(0, i), body("k", "v"+strconv.Itoa(i)))
		s.settle()
	}
	s.disks[0].Append("other", strings.Repeat("x", 1000-s.disks[0].Used()))
	was := s.committed(0)
	n, e := s.nodes[0].Compact()
	want(t, "Compact", e, api.ErrDisk)
	want(t, "Compact", n, 0)
	if !slices.Equal(s.committed(0), was) {
		t.Error("other records")
	}
	n, e = s.nodes[1].Compact() // half of its disk is others'
	if e != api.OK && e != api.ErrDisk || e == api.OK && n == 0 {
		t.Error(n, e)
	}
	s.checkAll()
}

// Rp1: a node is as its disk has it: the view, the log and what is committed are those from ahead of the crash.
func TestRp1AsTheDisk(t *testing.T) {
	inChaos(t, 12, func(x *chaos) {
		for range 12 {
			x.steps(60)
			for _, node := range x.running() {
				n := x.nodes[node]
				view, end, commit, all := n.View(), n.End(), n.Commit(), x.committed(node)
				x.crash(node, []int{x.Intn(50), x.Intn(50), x.Intn(50), x.Intn(50)})
				x.start(node)
				n = x.nodes[node]
				if n.View() != view || n.End() != end || n.Commit() != commit || n.Waiting() != 0 || !slices.Equal(all, x.committed(node)) {
					x.Error(node, n.View(), view, n.End(), end, n.Commit(), commit)
				}
			}
		}
	})
}

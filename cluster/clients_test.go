package cluster_test

import (
	"math"
	"strings"
	"testing"

	"postroad/api"
	"postroad/cluster"
	"postroad/wire"
)

// ask is the only message under way, that of a client to a node.
func (s *script) ask() api.Message {
	s.Helper()
	l := s.x.Messages()
	if len(l) != 1 {
		s.Fatal("messages:", len(l))
	}
	m, e := wire.Of(l[0])
	if e != api.OK || m.Kind != api.MsgAppend {
		s.Fatal("no ask:", m, e)
	}
	return m
}

// Cl1: a client asks the node 0 at first, for one batch after another, numbered from 0 on, with the offsets 0, 1, ..
func TestCl1OneByOne(t *testing.T) {
	s := newScript(t, config(3))
	s.submit(2, []api.Record{{Offset: 9, Key: "a"}, {Offset: -1, Key: "b", Gone: true}, {Offset: 0, Key: "c", Value: "3"}})
	m := s.ask()
	right := api.Message{Kind: api.MsgAppend, From: 102, To: 0, Id: id(2, 0), Body: []api.Record{{Key: "a"}, {Offset: 1, Key: "b", Gone: true}, {Offset: 2, Key: "c", Value: "3"}}}
	want(t, "asks", told(m.Body), told(right.Body))
	m.Body, right.Body = nil, nil
	if a, b := bytesOf(t, m), bytesOf(t, right); a != b {
		t.Error(m)
	}
	s.submit(2, body("d", "4"))
	s.submit(2, body("e", "5"))
	want(t, "Under", s.x.Under(), 1)
	s.checkAsked(2, 3, 0)
	for done := 1; s.x.Under() > 0; {
		s.deliver(1)
		if _, n := s.x.Asked(2); n == done {
			s.checkAsked(2, 3, done)
			done++
		}
	}
	s.checkAsked(2, 3, 3)
	acks := s.x.Acks()
	want(t, "acks", len(acks), 3)
	for i, a := range acks {
		want(t, "ack", a, api.Ack{Step: a.Step, Id: id(2, i), Base: []int{0, 3, 4}[i], Count: []int{3, 1, 1}[i]})
	}
	s.submit(2, body("f", "6"))
	want(t, "the next one", s.ask().Id, id(2, 3))
	want(t, "To", s.ask().To, 0)
}

func bytesOf(t testing.TB, m api.Message) string {
	t.Helper()
	s, e := wire.Bytes(m)
	if e != api.OK {
		t.Fatal(m, e)
	}
	return s
}

// tooLarge are records that layer 14 takes for none.
func tooLarge() map[string][]api.Record {
	long := make([]api.Record, api.MaxRecords)
	for i := range long {
		long[i].Value = strings.Repeat("x", api.MaxValue)
	}
	return map[string][]api.Record{
		"a key":             {{Key: "ok"}, {Key: strings.Repeat("k", api.MaxKey+1)}},
		"a value":           {{Key: "k", Value: strings.Repeat("v", api.MaxValue+1)}},
		"gone with a value": {{Key: "k", Value: "v", Gone: true}},
		"a message":         long,
	}
}

// Cl1: what layer 14 takes for none is answered by ErrLarge at once: when it is given, or when it is its turn.
func TestCl1ErrLargeAtOnce(t *testing.T) {
	for name, l := range tooLarge() {
		s := newScript(t, config(3))
		s.submit(0, body("a", "1"))
		s.submit(1, l)
		want(t, name, s.last(1), api.Ack{Step: 1, Id: id(1, 0), Err: api.ErrLarge})
		want(t, "Under", s.x.Under(), 1)
		s.checkAsked(1, 1, 1)

		s.submit(0, l)
		s.submit(0, l)
		s.submit(0, body("b", "2"))
		s.checkAsked(0, 4, 0)
		s.deliver(100)
		acks := s.x.Acks()[1:]
		want(t, "acks", len(acks), 4)
		want(t, "first", acks[0], api.Ack{Step: 5, Id: id(0, 0), Base: 0, Count: 1})
		want(t, "large", acks[1], api.Ack{Step: 5, Id: id(0, 1), Err: api.ErrLarge})
		want(t, "large", acks[2], api.Ack{Step: 5, Id: id(0, 2), Err: api.ErrLarge})
		want(t, "last", acks[3], api.Ack{Step: 5, Id: id(0, 3), Base: 1, Count: 1})
		s.checkAsked(0, 4, 4)
		s.tickClient(1)
		want(t, "Under", s.x.Under(), 0)
	}
}

// Cl1: what is too large for a node alone is asked for, and answered by ErrLarge; the client goes on.
func TestCl1ErrLargeByNode(t *testing.T) {
	large := make([]api.Record, 17)
	for i := range large {
		large[i].Value = strings.Repeat("x", api.MaxValue)
	}
	for _, l := range [][]api.Record{nil, large} {
		s := newScript(t, config(3))
		s.submit(0, l)
		s.submit(0, body("a", "1"))
		want(t, "records", len(s.ask().Body), len(l))
		s.deliver(100)
		acks := s.x.Acks()
		want(t, "acks", len(acks), 2)
		want(t, "large", acks[0], api.Ack{Step: 2, Id: id(0, 0), Err: api.ErrLarge})
		want(t, "next", acks[1], api.Ack{Step: 2, Id: id(0, 1), Base: 0, Count: 1})
		want(t, "told", told(s.fetch(0, 0, 9)), "0a=1 ")
	}
}

// Cl1: as many records as may be.
func TestCl1MaxRecords(t *testing.T) {
	s := newScript(t, config(3))
	s.submit(0, make([]api.Record, api.MaxRecords))
	s.deliver(100)
	s.checkAcked(0, 0, 0, api.MaxRecords)
}

// Cl1, DOC.md's example 8: a queue of one, two clients: one is told ErrQueue, and asks again, at once.
func TestCl1ErrQueue(t *testing.T) {
	c := config(3)
	c.Queue = 1
	s := newScript(t, c)
	s.submit(0, body("a", "1"))
	s.submit(1, body("b", "2"))
	s.deliver(2)
	want(t, "Waiting", s.x.Waiting(0), 1)
	s.deliver(3)
	want(t, "refused", s.last(1), api.Ack{Step: 3, Id: id(1, 0), Err: api.ErrQueue})
	s.checkAsked(1, 1, 0)
	s.deliver(100)
	s.checkAcked(0, 0, 0, 1)
	s.checkAcked(1, 0, 1, 1)
}

// Cl1, P6: as many clients as may be at the shortest queue are all answered, by one delivery, and never more wait than may.
func TestCl1ManyClients(t *testing.T) {
	for _, nodes := range []int{3, 5, 7} {
		for _, more := range []int{0, math.MaxInt} {
			c := config(nodes)
			c.Clients, c.Queue = 16, 1
			s := newScript(t, c)
			for client := range c.Clients {
				for range 10 {
					s.submit(client, body("k", "v"))
				}
			}
			for s.x.Under() > 0 {
				s.do(api.Step{Kind: api.StepDeliver, Max: more})
				if n := s.x.Waiting(0); n > 1 {
					t.Fatal("so many wait:", n)
				}
			}
			want(t, "lacking", s.lacking(), 0)
			want(t, "Commit", s.x.Commit(0), 160)
			if more > 0 {
				want(t, "Steps", s.x.Steps(), 161)
			}
			s.fetch(0, 0, 1000)
			s.checkAsks()
		}
	}
}

// Cl1: a client that is told ErrPrimary asks again, and comes to the primary.
func TestCl1ErrPrimary(t *testing.T) {
	for _, nodes := range []int{3, 5, 7} {
		s := newScript(t, config(nodes))
		s.crash(0)
		for range s.rounds() {
			s.round()
		}
		s.start(0)
		s.round()
		primary := s.x.View(1) % nodes
		if primary == 0 {
			t.Fatal("the primary is still", primary)
		}
		s.submit(1, body("a", "1"))
		want(t, "To", s.ask().To, 0)
		s.deliver(2)
		want(t, "refused", s.last(1), api.Ack{Step: s.x.Steps() - 1, Id: id(1, 0), Err: api.ErrPrimary})
		want(t, "Under", s.x.Under(), 1)
		s.deliver(100)
		s.checkAcked(1, 0, 0, 1)
		s.submit(1, body("b", "2"))
		want(t, "To", s.ask().To, primary) // it goes on to believe in it
		s.deliver(100)
		s.checkAcked(1, 1, 1, 1)
	}
}

// Cl1: each error that a client is told lets it ask again: one message is taken, and one is sent.
func TestCl1EachError(t *testing.T) {
	c := config(3)
	c.Disk = 1000
	for _, e := range []api.Errno{api.ErrQueue, api.ErrPrimary, api.ErrDisk} {
		c.Queue = 4
		if e == api.ErrQueue {
			c.Queue = 1
		}
		s := newScript(t, c)
		switch e {
		case api.ErrQueue:
			s.submit(1, body("a", "1"))
			s.deliver(1)
			s.dropAll()
		case api.ErrDisk:
			for range 20 {
				s.submit(1, body("a", strings.Repeat("1", 200)))
				s.deliver(100)
			}
			s.dropAll()
		case api.ErrPrimary:
			s.crash(0)
		}
		s.submit(0, body("b", strings.Repeat("2", 200)))
		for n := range 3000 {
			if s.x.Under() == 0 {
				s.tickClient(0)
			}
			acks := len(s.x.Acks())
			under := s.x.Under()
			s.deliver(1)
			a := s.last(0)
			switch {
			case len(s.x.Acks()) == acks:
			case a.Err != e || s.x.Under() != under:
				t.Fatal("not asked again:", n, a, under, s.x.Under())
			}
		}
		if n := len(s.x.Acks()); n < 500 {
			t.Error("answers:", e, n)
		}
	}
}

// Cl1: a client's clock lets it ask again, if it waits for something.
func TestCl1Clock(t *testing.T) {
	s := newScript(t, config(3))
	s.tickClient(0)
	want(t, "Under", s.x.Under(), 0)
	s.submit(0, body("a", "1"))
	s.drop(0)
	asked := map[int]int{}
	for range 12 {
		s.tickClient(0)
		m := s.ask()
		want(t, "From", m.From, 100)
		want(t, "Id", m.Id, id(0, 0))
		want(t, "told", told(m.Body), "0a=1 ")
		asked[m.To]++
		s.drop(0)
	}
	want(t, "nodes that were asked", len(asked), 3)
	for range 3 {
		s.tickClient(0)
	}
	want(t, "Under", s.x.Under(), 3)
	s.deliver(100)
	s.checkAcked(0, 0, 0, 1)
	s.tickClient(0)
	want(t, "Under", s.x.Under(), 0)
}

// Cl1: a client asks the same node once more, if its clock ticks; the next one, if it hears nothing then either.
func TestCl1Believes(t *testing.T) {
	s := newScript(t, config(3))
	for range 3 {
		s.submit(0, body("a", "1"))
		want(t, "To", s.ask().To, 0)
		s.drop(0)
		s.tickClient(0)
		want(t, "To", s.ask().To, 0)
		s.deliver(100)
	}
	s.submit(0, body("a", "1"))
	s.drop(0)
	for _, to := range []int{0, 1, 2} {
		s.tickClient(0)
		want(t, "To", s.ask().To, to)
		s.drop(0)
	}
	s.tickClient(0)
	s.tickClient(0)
	s.drop(0)
	want(t, "To", s.ask().To, 1)
	s.deliver(2) // it is told that it is none
	want(t, "To", s.ask().To, 2)
	s.drop(0)
	s.tickClient(0)
	want(t, "To", s.ask().To, 2)
}

// Cl1: a message that is lost is asked anew, and the batch is there once.
func TestCl1Lost(t *testing.T) {
	for lost := range 9 {
		s := newScript(t, config(3))
		s.submit(0, body("a", "1"))
		s.deliver(lost)
		s.dropAll()
		for range s.rounds() {
			s.round()
		}
		s.checkAcked(0, 0, 0, 1)
		for node := range 3 {
			want(t, "told", told(s.fetch(node, 0, 9)), "0a=1 ")
		}
	}
}

// Cl1: answers that are doubled, or late, and those to what was answered for good, are not noted, and let nobody ask.
func TestCl1Doubled(t *testing.T) {
	s := newScript(t, config(3))
	s.submit(0, body("a", "1"))
	for range 5 {
		s.do(api.Step{Kind: api.StepTwice})
	}
	s.submit(0, body("b", "2"))
	for s.x.Under() > 0 {
		s.do(api.Step{Kind: api.StepTwice})
		s.deliver(4)
		if s.x.Steps() > 5000 {
			t.Fatal("without end")
		}
	}
	acks := s.x.Acks()
	want(t, "acks", len(acks), 2)
	want(t, "ack", acks[0], api.Ack{Step: acks[0].Step, Id: id(0, 0), Base: 0, Count: 1})
	want(t, "ack", acks[1], api.Ack{Step: acks[1].Step, Id: id(0, 1), Base: 1, Count: 1})
	want(t, "told", told(s.fetch(0, 0, 9)), "0a=1 1b=2 ")
}

// R1, Cl1: a step ends, though a node refuses without end; the clients ask again all the same, and need no clock for that.
func TestR1DeliverEnds(t *testing.T) {
	for _, ticks := range []int{0, 1, 5} {
		c := config(3)
		c.Queue = 1
		s := newScript(t, c)
		s.crash(1)
		s.crash(2)
		for client := range 3 {
			s.submit(client, body("k", "v"))
		}
		for range 5 {
			was := len(s.x.Acks())
			s.do(api.Step{Kind: api.StepDeliver, Max: math.MaxInt})
			want(t, "Under", s.x.Under(), 2)
			s.deliver(4)
			want(t, "Under", s.x.Under(), 2)
			if n := len(s.x.Acks()) - was; n < 2*(cluster.MostRefused+1) || n > 2*(cluster.MostRefused+3+ticks) {
				t.Error("answers:", n)
			}
			for range ticks {
				s.tickClient(1)
				s.tickClient(2)
			}
		}
		s.start(1)
		s.tick(0)
		s.do(api.Step{Kind: api.StepDeliver, Max: math.MaxInt})
		for client := range 3 {
			s.checkAsked(client, 1, 1)
		}
		want(t, "Under", s.x.Under(), 0)
	}
}

// Cl3: a client that is to ask at a step's end, and is answered ahead of it, asks for the next batch once.
func TestCl3AnsweredMeanwhile(t *testing.T) {
	asked := 0
	for more := range 100 {
		c := config(3)
		c.Queue = 1
		s := newScript(t, c)
		s.submit(0, body("a", "1"))
		s.deliver(3) // two nodes have told that it stands
		s.submit(1, body("b", "2"))
		s.submit(1, body("c", "3"))
		s.tickClient(1)
		want(t, "Under", s.x.Under(), 4)
		s.do(api.Step{Kind: api.StepDeliver, N: 3, Max: 2*cluster.MostRefused + more})
		n := 0
		for _, one := range s.x.Messages() {
			if m, _ := wire.Of(one); m.Kind == api.MsgAppend && m.Id == id(1, 1) {
				n++
			}
		}
		if n > 1 {
			t.Error("asks for one batch:", more, n)
		}
		asked += n
		for s.x.Under() > 0 {
			s.deliver(100)
		}
		s.checkAcked(1, 1, 2, 1)
		s.checkAsks()
	}
	want(t, "asked for the next one", asked > 0, true)
}

// only lets the messages of a kind arrive at a node, and all others be lost.
func (s *script) only(kind, to int) {
	s.Helper()
	for s.x.Under() > 0 {
		m, _ := wire.Of(s.x.Messages()[0])
		if m.Kind == kind && m.To == to {
			s.deliver(1)
		} else {
			s.drop(0)
		}
	}
}

// R1, Cl1: the same where all nodes run, and none is the primary: what would tell its votes to the view's primary is lost.
func TestR1NoPrimaryEnds(t *testing.T) {
	s := newScript(t, config(3))
	s.crash(0)
	for s.x.View(2) == 0 {
		s.tick(1)
		s.tick(2)
		for s.x.View(2) == 0 && s.x.Under() > 0 {
			s.deliver(1)
		}
		s.dropAll()
	}
	s.start(0)
	for _, to := range []int{0, 1} {
		s.tick(2)
		s.only(api.MsgChange, to)
	}
	for node := range 3 {
		s.checkNode(node, 1, 0, 0, 0)
	}
	s.submit(0, body("a", "1"))
	for range 3 {
		was := len(s.x.Acks())
		s.do(api.Step{Kind: api.StepDeliver, Max: math.MaxInt})
		want(t, "Under", s.x.Under(), 1)
		want(t, "answers", len(s.x.Acks())-was, cluster.MostRefused+1)
		want(t, "answered", s.last(0).Err, api.ErrPrimary)
	}
	s.tick(0)
	s.deliver(100)
	s.checkAcked(0, 0, 0, 1)
}

package replica_test

import (
	"math"
	"math/rand"
	"slices"
	"strings"
	"testing"

	"postroad/api"
	"postroad/batch"
	"postroad/replica"
	"postroad/wire"
)

// spoilt are bytes in which some were changed, cut off or doubled.
func spoilt(r *rand.Rand, s string) string {
	b := []byte(s)
	for range 1 + r.Intn(3) {
		at := 0
		if len(b) > 0 {
			at = r.Intn(min(len(b), 16)) // a message's numbers stand ahead
			if r.Intn(3) == 0 {
				at = r.Intn(len(b))
			}
		}
		switch r.Intn(5) {
		case 0:
			b = b[:at]
		case 1:
			b = append(b, b[at:]...)
		case 2:
			b = slices.Insert(b, at, byte(r.Intn(256)))
		default:
			if at < len(b) {
				b[at] += byte(1 + r.Intn(255))
			}
		}
	}
	return string(b)
}

// someNumber is one that a field may have, or a bit more.
func someNumber(r *rand.Rand) int {
	edges := []int{0, 1, 2, 3, 5, 99, 100, 101, 102, 103, 255, 1<<31 - 2, 1<<31 - 1, 1 << 31, 1<<40 - 257, 1 << 40}
	if r.Intn(2) == 0 {
		return r.Intn(12)
	}
	return edges[r.Intn(len(edges))]
}

// someBatch are the bytes of one at an offset, or of none.
func someBatch(r *rand.Rand, base int) string {
	b := api.Batch{Base: base, Count: 1 + r.Intn(3), View: r.Intn(4), Producer: r.Intn(3), Seq: r.Intn(9)}
	if r.Intn(4) == 0 {
		b.View = math.MaxInt32
	}
	if r.Intn(3) > 0 {
		b.Records = []api.Record{{Offset: base, Key: "forged", Value: "v"}}
	}
	s, _ := batch.Bytes(b, r.Intn(3))
	if r.Intn(6) == 0 {
		s = spoilt(r, s)
	}
	return s
}

// forged is a message to a node, as nobody would send it, unless by chance.
func forged(r *rand.Rand, c api.Config, to int, n *replica.Node) string {
	m := api.Message{
		Kind: 1 + r.Intn(10), From: r.Intn(c.Nodes), To: to, View: n.View() + r.Intn(3), Normal: n.View() - r.Intn(2),
		End: n.End() + r.Intn(5) - 2, Commit: n.Commit() + r.Intn(3) - 1, Base: n.End() + r.Intn(5) - 2, Id: id(r.Intn(3), r.Intn(9)),
	}
	for _, field := range []*int{&m.From, &m.View, &m.Normal, &m.End, &m.Commit, &m.Base, &m.Id.Producer, &m.Id.Seq} {
		if r.Intn(6) == 0 {
			*field = someNumber(r)
		}
	}
	if r.Intn(4) == 0 {
		m.Err = api.Errno(r.Intn(2) * 151)
	}
	base := n.Commit() + r.Intn(2)*(n.End()-n.Commit())
	for range r.Intn(4) {
		s := someBatch(r, base)
		if b, _, e := batch.Head(s); e == api.OK {
			base = b.Base + b.Count
		}
		m.Log = append(m.Log, s)
	}
	if r.Intn(2) == 0 {
		m.Body = body("forged", "v", "k", "w")
	}
	s, e := wire.Bytes(m)
	if e != api.OK {
		return "no message"
	}
	return s
}

// Rp3: no bytes let a node fail: whatever it is told, a call ends, nothing goes to others than there are, and Commit never falls, nor is above End.
func TestRp3Whatever(t *testing.T) {
	inChaos(t, 30, func(x *chaos) {
		for range 1500 {
			node := x.Intn(x.c.Nodes)
			if !x.runs(node) {
				x.start(node)
			}
			n := x.nodes[node]
			x.under = nil
			var out []string
			switch x.Intn(8) {
			case 0:
				out = n.Tick()
			case 1:
				n.Compact()
			case 2:
				x.somePower(1)
				continue
			case 3:
				s := bytesOf(x, asking(100+x.Intn(5), node, id(x.Intn(3), x.Intn(40)), x.someBody()))
				out = n.Receive(spoilt(x.Rand, s))
			case 4:
				out = n.Receive(spoilt(x.Rand, forged(x.Rand, x.c, node, n)))
			default:
				out = n.Receive(forged(x.Rand, x.c, node, n))
			}
			x.checkSent(node, out)
			if _, e := n.Fetch(x.Intn(20), x.Intn(20)); e != api.OK {
				x.Fatal("Fetch:", e)
			}
		}
	})
}

// checkSent holds what a node sends to what it may send.
func (s *sim) checkSent(node int, l []string) {
	s.Helper()
	for _, one := range l {
		m := messageOf(s, one)
		toClient := m.To >= 100 && m.To < 100+s.c.Clients
		if m.From != node || !toClient && m.To >= s.c.Nodes || toClient != (m.Kind == api.MsgAnswer) {
			s.Fatal("such a message is sent:", m)
		}
	}
	s.check(node)
}

// Rp3: spoilt bytes of real messages between others, that are no messages any more, or messages by nobody or to nobody, change nothing.
func TestRp1NoMessages(t *testing.T) {
	inChaos(t, 12, func(x *chaos) {
		same := newChaos(x, x.c, 77)
		x.Rand = rand.New(rand.NewSource(77))
		r := rand.New(rand.NewSource(78))
		real := []string{bytesOf(x, asking(100, 0, id(0, 0), body("k", "v")))}
		for range 600 {
			x.step()
			same.step()
			if !slices.Equal(x.under, same.under) || len(x.answers) != len(same.answers) {
				x.Fatal("what is no message has changed something")
			}
			if len(x.under) > 0 {
				real = append(real, x.under[r.Intn(len(x.under))])
			}
			for _, node := range x.running() {
				x.checkNothing(node, noMessage(r, x.c, node, real[r.Intn(len(real))]))
			}
		}
		for node := range x.c.Nodes {
			if files(x.disks[node]) != files(same.disks[node]) {
				x.Error("another disk:", node)
			}
		}
	})
}

// checkNothing: of bytes that are no message to a node nothing is sent, and nothing changes.
func (s *sim) checkNothing(node int, bytes string) {
	s.Helper()
	n := s.nodes[node]
	was := []int{n.View(), n.Commit(), n.End(), n.Waiting()}
	disk := files(s.disks[node])
	out := n.Receive(bytes)
	is := []int{n.View(), n.Commit(), n.End(), n.Waiting()}
	if len(out) > 0 || !slices.Equal(was, is) || files(s.disks[node]) != disk {
		s.Fatalf("%q: %q, %v, %v", bytes, out, was, is)
	}
}

// noMessage are bytes that are no message to a node, from a node or a client that there is.
func noMessage(r *rand.Rand, c api.Config, node int, real string) string {
	m, _ := wire.Of(real)
	m.To = node
	switch r.Intn(8) {
	case 0: // to another node, or to none
		for m.To == node {
			m.To = []int{r.Intn(c.Nodes), c.Nodes, 100, 255}[r.Intn(4)]
		}
	case 1: // from a node that there is not
		m.From = []int{c.Nodes, c.Nodes + 1, 99, 255}[r.Intn(4)]
	case 2: // from a client that there is not
		m.From = []int{100 + c.Clients, 101 + c.Clients, 254}[r.Intn(3)]
	case 3: // a client's, from a node
		m.Kind, m.From = api.MsgAppend, r.Intn(c.Nodes)
	case 4: // a node's, from a client
		m.Kind, m.From = 2+r.Intn(9), 100
	case 5: // an answer
		m.Kind, m.From = api.MsgAnswer, r.Intn(c.Nodes)
	case 6: // of a kind that there is not
		s, _ := wire.Bytes(m)
		return string([]byte{byte(11 * r.Intn(2))}) + s[1:]
	default:
		s, _ := wire.Bytes(m)
		if r.Intn(2) == 0 {
			return s[:r.Intn(len(s))]
		}
		return s + string([]byte{byte(r.Intn(256))})
	}
	s, _ := wire.Bytes(m)
	return s
}

// Rp3: numbers that part a batch, or are beyond all that there is, leave a node fit for all to come.
func TestRp3Forged(t *testing.T) {
	s := newSim(t, config(3))
	s.side[2] = 1
	s.ask(100, 0, id(0, 0), body("a", "1", "b", "2", "c", "3"))
	for range 3 {
		for _, number := range []int{1, 2, 4, 1 << 40} {
			for node, n := range s.nodes {
				for kind := 1; kind <= 10; kind++ {
					for from := range 3 {
						m := api.Message{Kind: kind, From: from, To: node, End: number, Commit: number, Base: number}
						if kind == api.MsgOk && number > 3 {
							m.End = 2 // no node tells that more stands than there is
						}
						n.Receive(bytesOf(t, m))
						m.Commit = 0
						n.Receive(bytesOf(t, m))
						if got := n.Commit(); got != 0 && got != 3 {
							t.Fatal("Commit:", got)
						}
					}
				}
			}
		}
	}
	s.side[2] = 0
	for range rounds(s.c) {
		s.round()
	}
	s.checkWorks()
	for _, n := range s.nodes {
		want(t, "Commit", n.Commit(), 3)
		want(t, "View", n.View(), 0)
	}
	s.toNextView(0)
	s.ask(100, 1, id(0, 1), body("d", "4"))
	s.settle()
	s.checkAnswer(100, api.OK, 3, 4)
	s.checkAll()
}

// Rp3: a view beyond all that may be is passed over.
func TestRp3LastViews(t *testing.T) {
	for _, view := range []int{1<<31 - 3, 1<<31 - 2, 1<<31 - 1, 1 << 31, 1 << 40} {
		s := newSim(t, config(3))
		for kind := 2; kind <= 10; kind++ {
			for node, n := range s.nodes {
				n.Receive(bytesOf(t, api.Message{Kind: kind, From: (node + 1) % 3, To: node, View: view, Normal: view - 1}))
			}
		}
		for range 3 * rounds(s.c) {
			s.round()
		}
		s.ask(100, s.checkWorks(), id(0, 0), body("k", "v"))
		s.settle()
		s.checkAnswer(100, api.OK, 0, 1)
	}
}

// Rp3: a batch that is not from a primary at work, or with numbers that do not go together, and votes that are nobody's to give or to count, change nothing.
func TestRp3NotTaken(t *testing.T) {
	next, e := batch.Bytes(api.Batch{Base: 1, Count: 1, Producer: 7}, api.CodecNone)
	want(t, "Bytes", e, api.OK)
	s := newSim(t, config(3))
	s.ask(100, 0, id(0, 0), body("k", "v"))
	s.settle()
	s.toNextView(0)
	was := files(s.disks[2])
	for name, spoil := range map[string]func(m *api.Message){
		"from no primary":         func(m *api.Message) { m.From = 0 },
		"from one not at work":    func(m *api.Message) { m.Normal = 0 },
		"more than all committed": func(m *api.Message) { m.Commit = 1 << 40 },
		"of an earlier view":      func(m *api.Message) { m.From, m.View, m.Normal = 0, 0, 0 },
		"bytes behind a batch":    func(m *api.Message) { m.Log = []string{next + "x"} },
		"a part of a batch":       func(m *api.Message) { m.Log = []string{next[:38]} },
		"a batch of later":        func(m *api.Message) { m.Log = []string{strings.Replace(next, "\x01", "\x02", 1)} },
		"a vote of this view":     func(m *api.Message) { m.Kind, m.From, m.Normal = api.MsgDo, 0, 0 },
		"a vote that can't be":    func(m *api.Message) { m.Kind, m.From, m.View, m.Normal = api.MsgDo, 0, 2, 2 },
		"a log not asked for":     func(m *api.Message) { m.Kind, m.From, m.View, m.Normal = api.MsgState, 0, 2, 1 },
	} {
		m := api.Message{Kind: api.MsgPrepare, From: 1, To: 2, View: 1, Normal: 1, End: 2, Commit: 1, Log: []string{next}}
		spoil(&m)
		out := s.nodes[2].Receive(bytesOf(t, m))
		if s.nodes[2].Primary() || files(s.disks[2]) != was {
			t.Error(name)
		}
		for _, one := range out { // it may ask for what is lacking, or tell what is there
			if kind := messageOf(t, one).Kind; kind != api.MsgAsk && kind != api.MsgOk {
				t.Error(name, kind)
			}
		}
	}
	s.round()
	s.ask(100, 1, id(1, 0), body("k", "w"))
	s.settle()
	s.checkAnswer(100, api.OK, 1, 2)
	s.checkAll()
}

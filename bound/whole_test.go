package bound_test

import (
	"slices"
	"strings"
	"testing"

	"postroad/api"
	"postroad/deflate"
	"postroad/inflate"
	"postroad/replica"
	"postroad/vdisk"
	"postroad/wire"
)

// inAll runs what is done for 3, 5 and 7 nodes, by each codec.
func inAll(t *testing.T, do func(s *script)) {
	for _, nodes := range []int{3, 5, 7} {
		for codec := range 3 {
			t.Run(strings.Repeat("node", nodes)+[]string{"None", "Deflate", "Lz"}[codec], func(t *testing.T) {
				t.Parallel()
				c := config(nodes)
				c.Codec = codec
				do(newScript(t, c))
			})
		}
	}
}

// acked are the acks by OK of a client's batch.
func (s *script) acked(client, seq int) []api.Ack {
	var out []api.Ack
	for _, a := range s.x.Acks() {
		if a.Err == api.OK && a.Id == (api.Id{Producer: client, Seq: seq}) {
			out = append(out, a)
		}
	}
	return out
}

// checkAcked: a batch was answered once, so.
func (s *script) checkAcked(client, seq, base, count int) {
	s.Helper()
	l := s.acked(client, seq)
	if len(l) != 1 || l[0].Base != base || l[0].Count != count {
		s.Errorf("batch %d of %d: %v, not at %d, %d", seq, client, l, base, count)
	}
}

// countOf is how many of the acks are of an error.
func (s *script) countOf(e api.Errno) int {
	n := 0
	for _, a := range s.x.Acks() {
		if a.Err == e {
			n++
		}
	}
	return n
}

// untilAcked lets one message after another arrive, until a client's first batch is acked.
func (s *script) untilAcked(client int) {
	s.Helper()
	for len(s.acked(client, 0)) == 0 {
		if s.x.Under() == 0 {
			s.Fatal("not acked")
		}
		s.deliver(1)
	}
}

// DOC.md's example 1: a batch of two records is acked at Base 0, when a majority has synced it, and not ahead of that.
func TestExample1(t *testing.T) {
	inAll(t, func(s *script) {
		s.submit(0, body("a", "1", "b", "2"))
		s.untilAcked(0)
		s.checkAcked(0, 0, 0, 2)
		synced := 0
		for node := range s.c.Nodes {
			if s.x.End(node) == 2 {
				synced++
			}
		}
		if synced <= s.c.Nodes/2 {
			s.Error("it stands at so many:", synced)
		}
	})
}

// DOC.md's example 2, P4: what is asked for once more, at any time, has the same Base, and is in the log once.
func TestExample2(t *testing.T) {
	inAll(t, func(s *script) {
		s.submit(0, body("a", "1", "b", "2"))
		for range 3 * s.c.Nodes {
			s.do(api.Step{Kind: api.StepTwice}) // the batch's first bytes, again and again
			s.do(api.Step{Kind: api.StepClient})
		}
		s.crash(0)
		s.startAll()
		s.calmDown()
		s.submit(1, body("c", "3"))
		s.calmDown()
		s.checkAcked(0, 0, 0, 2)
		s.checkAcked(1, 0, 2, 1)
		s.checkWhole()
		want(s, "told", told(s.fetch(1, 0, 9)), "0a=1 1b=2 2c=3 ")
	})
}

// DOC.md's example 3, P2, P3: the primary's power goes behind the ack: another node becomes primary, and tells both records.
func TestExample3(t *testing.T) {
	inAll(t, func(s *script) {
		s.submit(0, body("a", "1", "b", "2"))
		s.untilAcked(0)
		s.dropAll()
		s.crash(0)
		s.submit(0, body("c", "3"))
		s.calmDown()
		s.checkAcked(0, 0, 0, 2)
		s.checkAcked(0, 1, 2, 1)
		for node := 1; node < s.c.Nodes; node++ {
			want(s, "told", told(s.fetch(node, 0, 9)), "0a=1 1b=2 2c=3 ")
			want(s, "view", s.x.View(node) > 0, true)
		}
	})
}

// DOC.md's example 4, P4: it goes ahead of the ack, whatever arrived: the client asks again, and the batch is there once.
func TestExample4(t *testing.T) {
	for arrived := range 9 {
		inAll(t, func(s *script) {
			s.submit(0, body("a", "1"))
			for range arrived {
				if len(s.x.Acks()) == 0 {
					s.deliver(1)
				}
			}
			s.crash(0)
			s.dropAll()
			s.calmDown()
			s.checkAcked(0, 0, 0, 1)
			s.startAll()
			s.calmDown()
			s.checkWhole()
			want(s, "told", told(s.fetch(0, 0, 9)), "0a=1 ")
		})
	}
}

// DOC.md's example 5: where no majority runs, nothing is acked; one of them back: all is.
func TestExample5(t *testing.T) {
	inAll(t, func(s *script) {
		for node := range s.c.Nodes/2 + 1 {
			s.crash(node)
		}
		s.submit(0, body("a", "1"))
		s.submit(1, body("b", "2"))
		for range rounds(s, s.c, 2) {
			s.round()
		}
		want(s, "acked", s.countOf(api.OK), 0)
		want(s, "lacking", s.lacking(), 2)
		s.quiet(nil, s.x.Under())
		s.start(0)
		s.calmDown()
		want(s, "acked", s.countOf(api.OK), 2)
		s.startAll()
		s.calmDown()
		s.checkWhole()
	})
}

// DOC.md's example 6: a=1, b=2, a=3 compacted: b=2 at 1, a=3 at 2, also at a node that was told of it later.
func TestExample6(t *testing.T) {
	inAll(t, func(s *script) {
		c := s.c
		c.Segment = 1
		s = newScript(s, c)
		late := c.Nodes - 1
		s.crash(late)
		s.submit(0, body("a", "1", "b", "2"))
		s.calmDown()
		s.submit(1, body("a", "3"))
		s.submit(1, body("c", "4"))
		s.calmDown()
		want(s, "ahead", told(s.fetch(0, 0, 9)), "0a=1 1b=2 2a=3 3c=4 ")
		for node := range late {
			s.do(api.Step{Kind: api.StepCompact, At: node})
		}
		s.startAll()
		s.calmDown()
		s.checkWhole()
		for node := range s.c.Nodes {
			want(s, "compacted", told(s.fetch(node, 0, 9)), "1b=2 2a=3 3c=4 ")
		}
	})
}

// DOC.md's example 7: a node back with half a batch in its file: it is cut off, and told anew.
func TestExample7(t *testing.T) {
	c := config(3)
	var disks []*vdisk.Disk
	var nodes []*replica.Node
	for node := range c.Nodes {
		d, _ := vdisk.New(c.Disk)
		n, e := replica.New(c, node, d)
		want(t, "New", e, api.OK)
		disks, nodes = append(disks, d), append(nodes, n)
	}
	arrive := func(l []string) {
		for ; len(l) > 0; l = l[1:] {
			if m, _ := wire.Of(l[0]); m.To < c.Nodes {
				l = append(l, nodes[m.To].Receive(l[0])...)
			}
		}
	}
	for seq := range 2 {
		ask, _ := wire.Bytes(api.Message{Kind: api.MsgAppend, From: 100, Id: api.Id{Seq: seq}, Body: []api.Record{{Key: "a", Value: "1"}, {Offset: 1, Key: "b", Value: "2"}}})
		arrive([]string{ask})
	}
	want(t, "End", nodes[2].End(), 4)
	names := slices.DeleteFunc(disks[2].Names(), func(name string) bool { return !strings.HasPrefix(name, "seg") })
	name := names[len(names)-1]
	disks[2].Cut(name, disks[2].Size(name)-5)
	nodes[2], _ = replica.New(c, 2, disks[2])
	want(t, "End", nodes[2].End(), 2)
	for range rounds(t, c, 0) {
		for _, n := range nodes {
			arrive(n.Tick())
		}
	}
	l, e := nodes[2].Fetch(0, 9)
	want(t, "Fetch", e, api.OK)
	want(t, "told", told(l), "0a=1 1b=2 2a=1 3b=2 ")
}

// DOC.md's example 8, P6: a queue of one, two clients: one is told ErrQueue, and asks again; what met the full queue is nowhere in the log as yet.
func TestExample8(t *testing.T) {
	inAll(t, func(s *script) {
		s = newScript(s, api.Config{Nodes: s.c.Nodes, Clients: 2, Queue: 1, Segment: 200, Disk: 1 << 20, Codec: s.c.Codec, Patience: 2})
		s.submit(0, body("a", "1"))
		s.submit(1, body("b", "2"))
		s.deliver(2)
		want(s, "it waits", s.x.Waiting(0), 1)
		for range 2 * s.c.Nodes {
			s.deliver(1)
			if s.countOf(api.ErrQueue) > 0 {
				break
			}
		}
		want(s, "refused", s.countOf(api.ErrQueue), 1)
		for node := range s.c.Nodes {
			want(s, "what met a full queue is not there", s.x.End(node) <= 1, true)
		}
		s.calmDown()
		s.checkAcked(0, 0, 0, 1)
		s.checkAcked(1, 0, 1, 1)
		s.checkWhole()
	})
}

// DOC.md's example 9: 1000 times "abc" by DEFLATE: fewer than a hundred bytes.
func TestExample9(t *testing.T) {
	plain := strings.Repeat("abc", 1000)
	s, e := deflate.Deflate(plain)
	want(t, "Deflate", e, api.OK)
	want(t, "fewer than a hundred", len(s) < 100, true)
	back, n, e := inflate.Inflate(s, len(plain))
	want(t, "Inflate", e, api.OK)
	want(t, "it ends", n, len(s))
	want(t, "as it was", back == plain, true)
}

// DOC.md's example 10, as far as the layers below the shell do it.
func TestExample10(t *testing.T) {
	s := newScript(t, api.Config{Nodes: 3, Clients: 1, Queue: 4, Segment: 1000, Disk: 100000, Codec: api.CodecDeflate, Patience: 3})
	s.submit(0, body("k", "v"))
	for range 100 {
		s.round()
	}
	want(t, "told", told(s.fetch(0, 0, 9)), "0k=v ")
	s.checkWhole()
}

// P6: what is too large for a batch, and what is too large for a message, is answered by ErrLarge, and is nowhere in the log; what comes behind it is.
func TestP6Large(t *testing.T) {
	noise := noises(256)
	inAll(t, func(s *script) {
		s.submit(0, noise[:250])
		s.submit(0, noise)
		s.submit(0, body("a", "1"))
		s.submit(1, noise[:70])
		s.submit(1, body("b", "2"))
		s.calmDown()
		want(s, "too large", s.countOf(api.ErrLarge), 3)
		want(s, "acked", s.countOf(api.OK), 2)
		s.checkWhole()
		want(s, "records", len(s.fetch(0, 0, 9)), 2)
	})
}

// P6: where disks are full clients are told so, and what was acked stays.
func TestP6Disk(t *testing.T) {
	noise := noises(64)
	inAll(t, func(s *script) {
		s = newScript(s, api.Config{Nodes: s.c.Nodes, Clients: 2, Queue: 4, Segment: 5000, Disk: 1 << 16, Codec: s.c.Codec, Patience: 2})
		for i := range noise {
			s.submit(i%2, noise[i:i+1])
		}
		for range 3 {
			s.round()
		}
		n := s.countOf(api.OK)
		want(s, "some are acked, others not", n > 10 && n < 16, true)
		want(s, "told", s.countOf(api.ErrDisk) > 0, true)
		for node := range s.c.Nodes {
			s.crash(node)
			s.start(node)
		}
		s.round()
		s.round()
		want(s, "no more than ahead", s.countOf(api.OK), n)
		s.checkWhole()
	})
}

// P7: what was packed by each codec is told as it was, and what repeats itself takes little room.
func TestP7Packed(t *testing.T) {
	inAll(t, func(s *script) {
		s = newScript(s, api.Config{Nodes: s.c.Nodes, Clients: 2, Queue: 4, Segment: 5000, Disk: 1 << 16, Codec: s.c.Codec, Patience: 2})
		for range 10 {
			var l []api.Record
			for range 15 {
				l = append(l, api.Record{Key: "k", Value: strings.Repeat("abc", 1000)})
			}
			s.submit(0, l)
		}
		s.submit(0, body("", "", "\x00", "\xff\n", "gone", ""))
		if s.c.Codec != api.CodecNone {
			s.calmDown()
			want(s, "records", s.x.Commit(0), 153)
			s.checkWhole()
			return
		}
		for range 9 {
			s.round()
		}
		want(s, "plain ones have no room", s.countOf(api.ErrDisk) > 0 && s.lacking() > 0, true)
		s.checkWhole()
	})
}

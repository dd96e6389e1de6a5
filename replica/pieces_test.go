package replica_test

import (
	"math/rand"
	"slices"
	"strconv"
	"strings"
	"testing"

	"postroad/api"
)

// heavy is a batch of so many bytes that a few of them are more than one message tells: a record whose key comes in each of them, and others that come once.
func heavy(r *rand.Rand, number int) []api.Record {
	out := body("again", strconv.Itoa(number))
	for i := range 12 {
		value := make([]byte, 4000)
		r.Read(value)
		out = append(out, api.Record{Offset: i + 1, Key: strconv.Itoa(number) + " " + strconv.Itoa(i), Value: string(value)})
	}
	return out
}

// behind is a cluster of three nodes of which one lacks all but the first batch, the others have all committed, and have compacted it; and all that the primary ever told that one, and was lost.
func behind(t *testing.T, batches, lacking int) (*sim, []string) {
	t.Helper()
	c := config(3)
	c.Segment, c.Disk = 1, 1<<22
	s := newSim(t, c)
	r := rand.New(rand.NewSource(1))
	s.ask(100, 0, id(0, 0), heavy(r, 0))
	s.settle()
	s.round()
	var lost []string
	for i := range batches {
		s.ask(100, 0, id(0, i+1), heavy(r, i+1))
		for len(s.under) > 0 {
			if m := messageOf(s, s.under[0]); m.To == lacking {
				lost = append(lost, s.under[0])
				s.under = s.under[1:]
				continue
			}
			s.arrive(0)
		}
		s.checkOneLog(0)
	}
	for node, n := range s.nodes {
		if node == lacking {
			want(t, "Commit", n.Commit(), 13)
			continue
		}
		want(t, "Commit", n.Commit(), 13*(batches+1))
		if n, e := n.Compact(); n != batches || e != api.OK {
			t.Fatal(n, e)
		}
	}
	return s, lost
}

// inPieces breaks off behind each number of pieces.
func inPieces(t *testing.T, do func(t *testing.T, pieces int)) {
	for pieces := range 7 {
		t.Run(strconv.Itoa(pieces), func(t *testing.T) {
			t.Parallel()
			do(t, pieces)
		})
	}
}

// arriveUpTo lets messages arrive until so many pieces of a log have, and tells whether there was another one: that is lost.
func (s *sim) arriveUpTo(pieces int) bool {
	s.Helper()
	for len(s.under) > 0 {
		if messageOf(s, s.under[0]).Kind == api.MsgState {
			if pieces == 0 {
				s.under = s.under[1:]
				return true
			}
			pieces--
		}
		s.arrive(0)
	}
	return false
}

// Rp2: a node that is told of a compacted log in pieces tells nothing of it ahead of what takes the place of what was dropped: also if the pieces break off, its power goes, and what was said long ago arrives.
func TestRp2Pieces(t *testing.T) {
	inPieces(t, func(t *testing.T, pieces int) {
		for _, crashes := range []bool{false, true} {
			s, lost := behind(t, 12, 2)
			s.tick(0)
			if broken := s.arriveUpTo(pieces); broken != (pieces < 6) {
				t.Fatal("not so many pieces:", pieces)
			}
			if crashes {
				s.crash(2, nil)
				s.start(2)
			}
			s.checkOneLog(2)
			// What it asks for then is lost, too. First comes what tells no more than how much is committed.
			isCommit := func(one string) bool { return messageOf(s, one).Kind == api.MsgCommit }
			for _, one := range slices.DeleteFunc(slices.Clone(lost), func(one string) bool { return !isCommit(one) }) {
				s.nodes[2].Receive(one)
				s.check(2)
				s.checkOneLog(2)
			}
			for _, one := range lost {
				s.nodes[2].Receive(one)
				s.check(2)
			}
			s.checkAll()
			s.round()
			s.round()
			want(t, "Commit", s.nodes[2].Commit(), s.nodes[0].Commit())
			s.checkAll()
		}
	})
}

// Rp2, Rp4: the same where the one whose log is told in pieces is to be the next primary, and where it is the one to tell the third.
func TestRp2PiecesForPrimary(t *testing.T) {
	inPieces(t, func(t *testing.T, pieces int) {
		s, _ := behind(t, 12, 1)
		s.side[0] = 1
		for range s.c.Patience + 1 {
			s.tick(1)
			s.tick(2)
			broken := s.arriveUpTo(pieces)
			s.checkOneLog(1)
			s.checkOneLog(2)
			if broken {
				break
			}
		}
		want(t, "Primary", s.nodes[1].Primary(), pieces == 6)
		s.crash(1, nil)
		s.start(1)
		for range 3 * (s.c.Patience + 2) {
			s.round()
		}
		want(t, "primary", s.checkWorks(), 1)
		want(t, "Commit", s.nodes[1].Commit(), 13*13)
		s.side[0], s.side[2] = 0, 1
		for range 3 * (s.c.Patience + 2) {
			s.round()
		}
		s.checkWorks()
		s.checkAll()
	})
}

// Rp2, Rp4: chaos with batches of which each message has a few at most.
func TestRp2Heavy(t *testing.T) {
	for seed := range 8 {
		t.Run(strconv.Itoa(seed), func(t *testing.T) {
			t.Parallel()
			c := config(3 + 2*(seed%2))
			c.Disk, c.Segment = 1<<24, 1<<uint(12+seed)
			x := newChaos(t, c, int64(seed))
			x.large, x.many, x.most = 4096, 15, 40
			for range 12 {
				x.episode()
			}
			x.calm(c.Nodes/2 + 1)
			x.calm(c.Nodes)
			x.checkAll()
		})
	}
}

// Rp1: the longest log that a disk has room for is told to one that lacks it, within a round.
func TestRp4WholeDisk(t *testing.T) {
	c := config(3)
	c.Disk, c.Segment = 1<<22, 1<<18
	s := newSim(t, c)
	s.side[2] = 1
	r := rand.New(rand.NewSource(2))
	for i := 0; s.last(100).Err == api.OK; i++ {
		s.ask(100, 0, id(0, i), heavy(r, i))
		s.settle()
	}
	want(t, "Err", s.last(100).Err, api.ErrDisk)
	s.side[2] = 0
	s.round()
	want(t, "Commit", s.nodes[2].Commit(), s.nodes[0].End())
	if !slices.Equal(s.committed(2), s.committed(0)) {
		t.Error("another log")
	}
}

// settleBut lets all messages arrive, but those that are lost.
func (s *sim) settleBut(isLost func(m api.Message) bool) {
	s.Helper()
	for len(s.under) > 0 {
		if isLost(messageOf(s, s.under[0])) {
			s.under = s.under[1:]
			continue
		}
		s.arrive(0)
	}
}

// roundsBut are so many rounds of some nodes alone, of which messages of a kind are lost.
func (s *sim) roundsBut(n, kind int, nodes ...int) {
	s.Helper()
	for range n {
		for _, node := range nodes {
			s.tick(node)
		}
		s.settleBut(func(m api.Message) bool {
			return m.Kind == kind || !slices.Contains(nodes, m.To)
		})
	}
}

// Rp2: what a compacted log lacks is known to whom it is told by one who was told of it himself, and does not know yet that it is committed by his own primary.
func TestRp2PiecesHandedOn(t *testing.T) {
	c := config(5)
	c.Segment, c.Disk = 1, 1<<22
	s := newSim(t, c)
	r := rand.New(rand.NewSource(3))
	s.ask(100, 0, id(0, 0), heavy(r, 0))
	s.settle()
	s.side = []int{0, 1, 1, 0, 0}
	for i := range 4 {
		s.ask(100, 0, id(0, i+1), heavy(r, i+1))
		s.settleBut(func(m api.Message) bool { return i == 3 && m.Kind == api.MsgCommit })
	}
	want(t, "Commit", s.nodes[0].Commit(), 65)
	want(t, "Commit", s.nodes[3].Commit(), 52)
	s.checkAll()
	s.side = make([]int, 5)
	for i := range 3 { // these are the first one's alone
		s.ask(100, 0, id(0, i+5), heavy(r, i+5))
		s.under = nil
	}
	n, e := s.nodes[0].Compact()
	want(t, "Compact", e, api.OK)
	want(t, "Compact", n, 4)
	// The second one takes the first one's log, but for its last piece.
	s.roundsBut(c.Patience+1, api.MsgDo, 1, 2, 3)
	for _, node := range []int{1, 2} {
		s.tick(node)
	}
	for states := 0; len(s.under) > 0 && states < 3; {
		m := messageOf(s, s.under[0])
		if m.To > 2 {
			s.under = s.under[1:]
			continue
		}
		if m.Kind == api.MsgState {
			states++
		}
		s.arrive(0)
	}
	s.under = nil
	want(t, "End", s.nodes[1].End(), 91)
	want(t, "Commit", s.nodes[1].Commit(), 13)
	// The third one takes the second one's, and is not told that it stands.
	s.roundsBut(2*c.Patience+2, api.MsgOk, 1, 2, 4)
	want(t, "Primary", s.nodes[2].Primary() && s.nodes[2].View() == 2, true)
	want(t, "End", s.nodes[2].End(), 91)
	want(t, "Commit", s.nodes[2].Commit(), 13)
	// The fourth one takes it, too, and tells the third one how much it knows to be committed.
	s.roundsBut(2*c.Patience+2, api.MsgOk, 1, 3, 4)
	want(t, "Primary", s.nodes[3].Primary() && s.nodes[3].View() == 3, true)
	s.roundsBut(2, api.MsgOk, 2, 3)
	want(t, "View", s.nodes[2].View(), 3)
	want(t, "End", s.nodes[2].End(), 91)
	s.checkAll()
	for range 2 {
		s.round()
	}
	want(t, "Commit", s.nodes[2].Commit(), 91)
	s.checkAll()
}

// Rp4: a node without room for what it lacks asks no more than once for each time that it is told of it, and holds nobody up; when there is room, it follows.
func TestRp4NoRoom(t *testing.T) {
	c := config(3)
	c.Disk = 5000
	s := newSim(t, c)
	want(t, "Append", s.disks[2].Append("other", strings.Repeat("x", 4500)), api.OK)
	for i := range 30 {
		s.ask(100, 0, id(0, i), body("k", "a value of some bytes"))
		s.settle()
		s.checkAnswer(100, api.OK, i, i+1)
	}
	for range 10 {
		for _, node := range s.running() {
			s.tick(node)
		}
		sent := 0
		s.settleBut(func(m api.Message) bool { sent++; return false })
		if sent > 10 {
			t.Fatal("so many messages:", sent)
		}
	}
	if end := s.nodes[2].End(); end == 0 || end >= 30 {
		t.Error(end)
	}
	want(t, "View", s.nodes[2].View(), 0)
	s.toNextView(0)
	want(t, "Remove", s.disks[2].Remove("other"), api.OK)
	s.round()
	want(t, "Commit", s.nodes[2].Commit(), 30)
	s.checkAll()
}

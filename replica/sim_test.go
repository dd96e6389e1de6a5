package replica_test

import (
	"math"
	"math/rand"
	"slices"
	"strconv"
	"testing"

	"postroad/api"
	"postroad/replica"
	"postroad/vdisk"
	"postroad/wire"
)

func want[T comparable](t testing.TB, what string, got, right T) {
	t.Helper()
	if got != right {
		t.Errorf("%s: %v, not %v", what, got, right)
	}
}

func newDisk(t testing.TB, room int) *vdisk.Disk {
	t.Helper()
	d, e := vdisk.New(room)
	if e != api.OK {
		t.Fatal(room, e)
	}
	return d
}

func bytesOf(t testing.TB, m api.Message) string {
	t.Helper()
	s, e := wire.Bytes(m)
	if e != api.OK {
		t.Fatal(m, e)
	}
	return s
}

func messageOf(t testing.TB, s string) api.Message {
	t.Helper()
	m, e := wire.Of(s)
	if e != api.OK {
		t.Fatalf("%q: %d", s, e)
	}
	return m
}

func id(producer, seq int) api.Id { return api.Id{Producer: producer, Seq: seq} }

// body are records with these texts as keys and values, in turn.
func body(texts ...string) []api.Record {
	var out []api.Record
	for i := 0; i < len(texts); i += 2 {
		out = append(out, api.Record{Offset: i / 2, Key: texts[i], Value: texts[i+1]})
	}
	return out
}

func asking(client, node int, i api.Id, records []api.Record) api.Message {
	return api.Message{Kind: api.MsgAppend, From: client, To: node, Id: i, Body: records}
}

// config is one that may be, for so many nodes.
func config(nodes int) api.Config {
	return api.Config{Nodes: nodes, Clients: 3, Queue: 4, Segment: 200, Disk: 1 << 20, Patience: 2}
}

// sim is nodes on disks, the messages that are under way, and all that was ever told, held against what the chapter promises at each step.
type sim struct {
	testing.TB
	c       api.Config
	disks   []*vdisk.Disk
	nodes   []*replica.Node // nil: it does not run
	under   []string
	commits []int                     // the last ones, of each node
	answers []api.Message             // all that clients got
	asked   map[api.Id][][]api.Record // what was asked for: more than one, if clients do not agree
	acked   map[api.Id]int            // at which Base
	bases   map[int]api.Id            // the other way round
	records map[int]api.Record        // all that was ever fetched
	side    []int                     // of each node: what is sent from one side to another is lost
}

func newSim(t testing.TB, c api.Config) *sim {
	t.Helper()
	s := &sim{
		TB: t, c: c, nodes: make([]*replica.Node, c.Nodes), commits: make([]int, c.Nodes), side: make([]int, c.Nodes),
		asked: map[api.Id][][]api.Record{}, acked: map[api.Id]int{}, bases: map[int]api.Id{}, records: map[int]api.Record{},
	}
	for node := range c.Nodes {
		s.disks = append(s.disks, newDisk(t, c.Disk))
		s.start(node)
	}
	return s
}

func (s *sim) start(node int) {
	s.Helper()
	n, e := replica.New(s.c, node, s.disks[node])
	if e != api.OK {
		s.Fatal("New:", node, e)
	}
	s.nodes[node] = n
	s.commits[node] = n.Commit()
	s.check(node)
}

func (s *sim) crash(node int, keep []int) {
	s.nodes[node] = nil
	s.disks[node].Crash(keep)
}

func (s *sim) runs(node int) bool { return s.nodes[node] != nil }

// running are the numbers of the nodes that run.
func (s *sim) running() []int {
	var out []int
	for node := range s.c.Nodes {
		if s.runs(node) {
			out = append(out, node)
		}
	}
	return out
}

// sent takes what a node sends: answers to clients are there at once, all else is under way.
func (s *sim) sent(node int, l []string) {
	s.Helper()
	for _, one := range l {
		m := messageOf(s, one)
		want(s, "From", m.From, node)
		toClient := m.To >= 100 && m.To < 100+s.c.Clients
		if !toClient && (m.To < 0 || m.To >= s.c.Nodes) {
			s.Fatal("a message to nobody:", m)
		}
		if toClient != (m.Kind == api.MsgAnswer) {
			s.Fatal("a message of another kind:", m)
		}
		if toClient {
			s.answered(m)
		} else {
			s.under = append(s.under, one)
		}
	}
	s.check(node)
}

// answered notes an answer. What was answered by OK is committed at the node that answers, at the same offsets each time.
func (s *sim) answered(m api.Message) {
	s.Helper()
	s.answers = append(s.answers, m)
	right := api.Message{Kind: api.MsgAnswer, From: m.From, To: m.To, View: s.nodes[m.From].View(), Id: m.Id, Err: m.Err}
	if m.Err == api.OK {
		right.Base, right.End = m.Base, m.End
	}
	if bytesOf(s, m) != bytesOf(s, right) {
		s.Fatalf("an answer with more than it has: %v", m)
	}
	switch m.Err {
	case api.ErrPrimary, api.ErrQueue, api.ErrLarge, api.ErrDisk:
		return
	case api.OK:
	default:
		s.Fatal("no such answer:", m)
	}
	if m.End > s.nodes[m.From].Commit() {
		s.Fatal("answered ahead of its commit:", m, s.nodes[m.From].Commit())
	}
	base, was := s.acked[m.Id]
	other, taken := s.bases[m.Base]
	if was && base != m.Base || taken && other != m.Id {
		s.Fatal("one batch at two places, or two at one:", m, base, other)
	}
	s.acked[m.Id], s.bases[m.Base] = m.Base, m.Id
	if !slices.ContainsFunc(s.asked[m.Id], func(l []api.Record) bool { return len(l) == m.End-m.Base }) {
		s.Fatal("not so many records:", m)
	}
}

// check holds a node to what is so at any time.
func (s *sim) check(node int) {
	s.Helper()
	n := s.nodes[node]
	if n.Commit() < s.commits[node] || n.Commit() > n.End() {
		s.Fatal("Commit:", node, s.commits[node], n.Commit(), n.End())
	}
	s.commits[node] = n.Commit()
	if n.Waiting() > s.c.Queue || n.Waiting() < 0 {
		s.Fatal("Waiting:", node, n.Waiting())
	}
	if n.Primary() && n.View()%s.c.Nodes != node {
		s.Fatal("Primary:", node, n.View())
	}
}

// arrive lets the message of a place arrive; one to a node that does not run, or is on another side, is lost.
func (s *sim) arrive(place int) {
	s.Helper()
	one := s.under[place]
	s.under = slices.Delete(s.under, place, place+1)
	m := messageOf(s, one)
	if s.runs(m.To) && s.side[m.From] == s.side[m.To] {
		s.sent(m.To, s.nodes[m.To].Receive(one))
	}
}

// settle lets all messages arrive, in the order in which they were sent, also those that are sent then.
func (s *sim) settle() {
	s.Helper()
	for i := 0; len(s.under) > 0; i++ {
		if i > 1<<17 {
			s.Fatal("messages without end")
		}
		s.arrive(0)
	}
}

func (s *sim) tick(node int) {
	s.Helper()
	s.sent(node, s.nodes[node].Tick())
}

// round is one in which the clock of each node that runs ticks, and then all messages arrive.
func (s *sim) round() {
	s.Helper()
	for _, node := range s.running() {
		s.tick(node)
	}
	s.settle()
}

// rounds is within how many of them a primary has all committed.
func rounds(c api.Config) int { return (c.Nodes + 2) * (2*c.Patience + 8) }

// ask lets a client ask a node for a batch.
func (s *sim) ask(client, node int, i api.Id, records []api.Record) {
	s.Helper()
	if !slices.ContainsFunc(s.asked[i], func(l []api.Record) bool { return slices.Equal(l, records) }) {
		s.asked[i] = append(s.asked[i], records)
	}
	s.sent(node, s.nodes[node].Receive(bytesOf(s, asking(client, node, i, records))))
}

// primary is the number of the primary at work of the greatest view, among the nodes that run; -1: there is none.
func (s *sim) primary() int {
	at := -1
	for _, node := range s.running() {
		if s.nodes[node].Primary() && (at < 0 || s.nodes[node].View() > s.nodes[at].View()) {
			at = node
		}
	}
	return at
}

// committed are all records that a node has below its Commit.
func (s *sim) committed(node int) []api.Record {
	s.Helper()
	l, e := s.nodes[node].Fetch(0, math.MaxInt)
	if e != api.OK {
		s.Fatal("Fetch:", node, e)
	}
	return l
}

// checkOneLog holds what a node tells against all that was ever told: at one offset the same record, or none, and then one of its key behind it. The latter is among those of this very node, since what it dropped, or was told without it, goes not beyond its Commit.
func (s *sim) checkOneLog(node int) {
	s.Helper()
	last := map[string]int{}
	has := map[int]bool{}
	at := -1
	for _, r := range s.committed(node) {
		if r.Offset <= at || r.Offset >= s.nodes[node].Commit() {
			s.Fatal("an offset that may not be:", node, r.Offset, at)
		}
		if other, told := s.records[r.Offset]; told && other != r {
			s.Fatal("two records at one offset:", node, r, other)
		}
		at = r.Offset
		s.records[at] = r
		last[r.Key] = at
		has[at] = true
	}
	for offset, r := range s.records {
		if offset < s.nodes[node].Commit() && !has[offset] && last[r.Key] <= offset {
			s.Fatal("a record that is left out, and none of its key behind it:", node, s.nodes[node].Commit(), offset, r.Key)
		}
	}
}

// checkAcked: what was answered by OK is in the log, as it was asked for, as far as it was ever fetched.
func (s *sim) checkAcked() {
	s.Helper()
	for i, base := range s.acked {
		if !slices.ContainsFunc(s.asked[i], func(l []api.Record) bool { return s.isTold(base, l) }) {
			s.Fatal("not as it was asked for:", i, base)
		}
	}
}

// isTold tells whether nothing else was fetched at offsets from a base on than these records.
func (s *sim) isTold(base int, l []api.Record) bool {
	for k, r := range l {
		r.Offset = base + k
		if told, ok := s.records[r.Offset]; ok && told != r {
			return false
		}
	}
	return true
}

// checkSure: what is below Commit is synced on the node's own disk.
func (s *sim) checkSure(node int) {
	s.Helper()
	d := s.disks[node].Copy()
	d.Crash(nil)
	n, e := replica.New(s.c, node, d)
	if e != api.OK {
		s.Fatal("New:", node, e)
	}
	n.Tick()
	commit := s.nodes[node].Commit()
	if n.End() < commit {
		s.Fatal("not all is synced:", node, n.End(), commit)
	}
	again := &sim{TB: s, c: s.c, nodes: []*replica.Node{n}}
	got := again.committed(0)
	if n.Commit() == commit && !slices.Equal(got, s.committed(node)) {
		s.Fatal("other records behind a crash:", node)
	}
}

// checkAll holds all nodes that run to it.
func (s *sim) checkAll() {
	s.Helper()
	for _, node := range s.running() {
		s.checkOneLog(node)
		s.checkSure(node)
	}
	s.checkAcked()
}

// checkWorks: there is a primary, and all of its log is committed.
func (s *sim) checkWorks() int {
	s.Helper()
	at := s.primary()
	if at < 0 {
		for _, node := range s.running() {
			s.Log(node, s.nodes[node].View(), s.nodes[node].Commit(), s.nodes[node].End())
		}
		s.Fatal("no primary is at work")
	}
	if n := s.nodes[at]; n.Commit() != n.End() {
		s.Fatal("not all is committed:", at, n.View(), n.Commit(), n.End())
	}
	return at
}

// chaos does steps of all kinds by chance.
type chaos struct {
	*sim
	*rand.Rand
	seq     []int // of each producer
	large   int   // bytes of values, at most
	many    int   // records of a batch, at most
	keys    int
	most    int // messages under way
	compact bool
	old     []string // some that arrived, or were lost, long ago
	seed    int64
}

func newChaos(t testing.TB, c api.Config, seed int64) *chaos {
	return &chaos{
		sim: newSim(t, c), Rand: rand.New(rand.NewSource(seed)),
		seq: make([]int, c.Clients), large: 20, many: 4, keys: 5, most: 60, compact: true, seed: seed,
	}
}

func (x *chaos) someBody() []api.Record {
	var out []api.Record
	for i := range 1 + x.Intn(x.many) {
		r := api.Record{Offset: i, Key: "k" + strconv.Itoa(x.Intn(x.keys)), Gone: x.Intn(8) == 0}
		if !r.Gone {
			value := make([]byte, x.Intn(x.large))
			x.Read(value)
			r.Value = string(value)
		}
		out = append(out, r)
	}
	return out
}

func (x *chaos) someAsk() {
	producer := x.Intn(x.c.Clients)
	node := x.Intn(x.c.Nodes)
	if at := x.primary(); at >= 0 && x.Intn(4) > 0 {
		node = at
	}
	if !x.runs(node) {
		return
	}
	i := id(producer, x.seq[producer])
	if x.Intn(3) > 0 {
		x.seq[producer]++
	} else if i.Seq > 0 && x.Intn(2) == 0 {
		i.Seq = x.Intn(i.Seq) // once more
	}
	records := x.someBody()
	if l := x.asked[i]; len(l) > 0 && x.Intn(3) > 0 {
		records = l[0] // mostly clients ask for the same once more
	}
	x.ask(100+x.Intn(x.c.Clients), node, i, records)
}

// remember keeps some of the messages, to come again at any time.
func (x *chaos) remember() {
	if len(x.under) == 0 || x.Intn(4) > 0 {
		return
	}
	one := x.under[x.Intn(len(x.under))]
	if len(x.old) < 300 {
		x.old = append(x.old, one)
	} else {
		x.old[x.Intn(len(x.old))] = one
	}
}

// recall lets so many of them be under way once more.
func (x *chaos) recall(n int) {
	for range n {
		if len(x.old) > 0 {
			x.under = append(x.under, x.old[x.Intn(len(x.old))])
		}
	}
}

// someMessage lets one arrive, or be lost, or be there once more.
func (x *chaos) someMessage() {
	x.remember()
	if x.Intn(10) == 0 {
		x.recall(1)
	}
	if len(x.under) == 0 {
		return
	}
	place := x.Intn(len(x.under))
	if x.Intn(2) == 0 {
		place = 0
	}
	switch k := x.Intn(20); {
	case k == 0:
		x.under = append(x.under, x.under[place])
	case k == 1 || len(x.under) > x.most:
		x.under = slices.Delete(x.under, place, place+1)
	default:
		x.arrive(place)
	}
}

// somePower lets a node's power go, or come again. At most so many are down.
func (x *chaos) somePower(down int) {
	node := x.Intn(x.c.Nodes)
	if !x.runs(node) {
		x.start(node)
		return
	}
	if x.c.Nodes-len(x.running()) >= down {
		return
	}
	keep := make([]int, 40)
	for i := range keep {
		keep[i] = x.Intn(60) - 20
	}
	x.crash(node, keep)
}

// someSides lets the nodes be on one side, or on two: each by chance, or the primary by itself.
func (x *chaos) someSides() {
	sides := 1 + x.Intn(2)
	for node := range x.side {
		x.side[node] = x.Intn(sides)
	}
	if at := x.primary(); at >= 0 && x.Intn(3) == 0 {
		x.side = make([]int, x.c.Nodes)
		x.side[at] = 1
	}
}

func (x *chaos) step() {
	x.Helper()
	node := x.Intn(x.c.Nodes)
	switch k := x.Intn(100); {
	case k < 12:
		x.someAsk()
	case k < 22:
		if x.runs(node) {
			x.tick(node)
		}
	case k < 24:
		x.somePower(x.c.Nodes)
	case k < 26:
		if x.runs(node) && x.compact {
			x.nodes[node].Compact()
			x.check(node)
		}
	case k < 28:
		if x.runs(node) {
			x.checkOneLog(node)
		}
	case k == 28:
		x.under = nil // all that is under way is lost
	case k < 31:
		x.someSides()
	case k < 34:
		for range x.Intn(2*x.c.Patience + 4) {
			x.round()
			x.someAsk()
		}
	default:
		x.someMessage()
	}
}

func (x *chaos) steps(n int) {
	x.Helper()
	for range n {
		x.step()
	}
	x.checkMost()
}

// checkMost holds all nodes that run to one log, and one of them to its disk: that takes its time.
func (x *chaos) checkMost() {
	x.Helper()
	for _, node := range x.running() {
		x.checkOneLog(node)
	}
	x.checkAcked()
	if node := x.Intn(x.c.Nodes); x.runs(node) {
		x.checkSure(node)
	}
}

// episode is some rounds in which some nodes run, on one side or on two, and messages are lost, doubled and late more or less often.
func (x *chaos) episode() {
	x.Helper()
	x.someSides()
	for range x.Intn(x.c.Nodes) {
		x.somePower(x.c.Nodes / 2)
	}
	bad := []int{0, 0, 1, 5, 20}[x.Intn(5)] // so many of a hundred messages are
	for range x.Intn(2*x.c.Patience + 6) {
		x.badRound(bad)
	}
	x.checkMost()
}

// turn lets a majority go on without the others, often without the primary: so views follow one another, each with the logs of other nodes.
func (x *chaos) turn() {
	x.Helper()
	for node := range x.c.Nodes {
		x.side[node] = 1
		if !x.runs(node) {
			x.start(node)
		}
	}
	for _, node := range x.Perm(x.c.Nodes)[:x.c.Nodes/2+1] {
		x.side[node] = 0
	}
	if node := x.Intn(x.c.Nodes); x.Intn(3) == 0 {
		x.crash(node, []int{x.Intn(50), x.Intn(50), x.Intn(50)})
		x.start(node)
	}
	for range x.c.Patience + 1 + x.Intn(3) {
		x.recall(x.Intn(4))
		x.badRound([]int{0, 0, 0, 3, 10}[x.Intn(5)])
	}
	for node := range x.c.Nodes {
		if x.nodes[node].Primary() && x.Intn(2) == 0 { // on each side one may take itself for the primary
			x.ask(100, node, id(x.Intn(3), x.Intn(1000)), x.someBody())
		}
	}
	if x.Intn(4) == 0 {
		x.under = nil
	}
}

// badRound is one in which so many of a hundred messages are lost, doubled or late.
func (x *chaos) badRound(bad int) {
	x.Helper()
	for _, node := range x.Perm(x.c.Nodes) {
		if x.runs(node) && (bad == 0 || x.Intn(100) >= bad) {
			x.tick(node)
		}
		if x.Intn(3) == 0 {
			x.someAsk()
		}
	}
	x.arriveMostly(bad)
	if node := x.Intn(x.c.Nodes); x.runs(node) && x.compact && x.Intn(4) == 0 {
		x.nodes[node].Compact()
	}
}

// arriveMostly lets messages arrive, but so many of a hundred, that are lost, doubled, or late until another round.
func (x *chaos) arriveMostly(bad int) {
	x.Helper()
	var late []string
	for len(x.under) > 0 {
		x.remember()
		place := 0
		if bad > 0 {
			place = x.Intn(min(len(x.under), bad))
		}
		if x.Intn(100) < bad {
			switch x.Intn(3) {
			case 0:
				x.under = append(x.under, x.under[place])
			case 1:
				late = append(late, x.under[place])
				x.under = slices.Delete(x.under, place, place+1)
			case 2:
				x.under = slices.Delete(x.under, place, place+1)
			}
			continue
		}
		x.arrive(place)
	}
	x.under = late
}

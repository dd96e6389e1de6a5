package session_test

import (
	"encoding/binary"
	"math/rand"
	"slices"
	"testing"

	"postroad/api"
	"postroad/batch"
	"postroad/session"
)

// waits is somebody of the model who waits.
type waits struct {
	id  api.Id
	who int
}

// model is the chapter's words: lists, gone through from their beginning.
type model struct {
	queue int
	put   []api.Batch
	wait  []waits
}

func end(b api.Batch) int { return b.Base + b.Count }

func idOf(b api.Batch) api.Id { return api.Id{Producer: b.Producer, Seq: b.Seq} }

func (m *model) find(id api.Id) (api.Batch, api.Errno) {
	for _, b := range m.put {
		if b.Producer == id.Producer && b.Seq == id.Seq {
			return b, api.OK
		}
	}
	return api.Batch{}, api.ErrNone
}

func (m *model) add(b api.Batch) api.Errno {
	if batch.Check(b) != api.OK {
		return api.ErrArg
	}
	if _, e := m.find(idOf(b)); e == api.OK {
		return api.ErrOrder
	}
	if n := len(m.put); n > 0 && b.Base < end(m.put[n-1]) {
		return api.ErrOrder
	}
	b.Records = nil
	m.put = append(m.put, b)
	return api.OK
}

func sizeOfVar(n int) int { return len(binary.AppendUvarint(nil, uint64(n))) }

// size is how many bytes records have by layer 9, with the offsets 0, 1, ..; -1: one may not be.
func size(l []api.Record) int {
	n := 0
	for i, r := range l {
		if len(r.Key) > 64 || len(r.Value) > 4096 || r.Gone && r.Value != "" {
			return -1
		}
		n += sizeOfVar(i) + sizeOfVar(len(r.Key)) + len(r.Key)
		if r.Gone {
			n++
			continue
		}
		n += sizeOfVar(len(r.Value)+1) + len(r.Value)
	}
	return n
}

func (m *model) ask(id api.Id, l []api.Record, committed int) (api.Batch, int, api.Errno) {
	if id.Producer < 0 || id.Producer >= 1<<31 || id.Seq < 0 || id.Seq >= 1<<31 || committed < 0 {
		return api.Batch{}, 0, api.ErrArg
	}
	if b, e := m.find(id); e == api.OK {
		if end(b) > committed {
			return b, 2, api.OK
		}
		return b, 1, api.OK
	}
	if len(l) == 0 || len(l) > 256 || size(l) < 0 || size(l) > 65536 {
		return api.Batch{}, 0, api.ErrLarge
	}
	if len(m.wait) == m.queue {
		return api.Batch{}, 0, api.ErrQueue
	}
	return api.Batch{}, 3, api.OK
}

func (m *model) begin(id api.Id, who int) api.Errno {
	if _, e := m.find(id); e != api.OK {
		return e
	}
	for _, w := range m.wait {
		if w.id == id && w.who == who {
			return api.OK
		}
	}
	if len(m.wait) == m.queue {
		return api.ErrQueue
	}
	m.wait = append(m.wait, waits{id, who})
	return api.OK
}

func (m *model) done(committed int) []api.Ack {
	var acks []api.Ack
	var left []waits
	for _, w := range m.wait {
		if b, _ := m.find(w.id); end(b) <= committed {
			acks = append(acks, api.Ack{Step: w.who, Id: w.id, Base: b.Base, Count: b.Count})
		} else {
			left = append(left, w)
		}
	}
	m.wait = left
	return acks
}

func (m *model) cut(offset int) api.Errno {
	if offset < 0 {
		return api.ErrArg
	}
	var put []api.Batch
	for _, b := range m.put {
		if end(b) <= offset {
			put = append(put, b)
		}
	}
	m.put = put
	var left []waits
	for _, w := range m.wait {
		if _, e := m.find(w.id); e == api.OK {
			left = append(left, w)
		}
	}
	m.wait = left
	return api.OK
}

// pair is a table and the model of it: each call is done on both, and what they answer must be the same.
type pair struct {
	t  testing.TB
	x  *session.Table
	m  *model
	at map[api.Id]api.Batch // what was told of each batch since it was put
}

func newPair(t testing.TB, queue int) *pair {
	t.Helper()
	x, e := session.New(queue)
	if x == nil || e != api.OK {
		t.Fatalf("New(%d): %v, %d", queue, x, e)
	}
	return &pair{t: t, x: x, m: &model{queue: queue}, at: map[api.Id]api.Batch{}}
}

func (p *pair) errno(what string, got, e api.Errno) {
	p.t.Helper()
	if got != e {
		p.t.Fatalf("%s: %d, not %d", what, got, e)
	}
}

func (p *pair) batch(what string, got, b api.Batch) {
	p.t.Helper()
	if !sameBatch(got, b) {
		p.t.Fatalf("%s: %v, not %v", what, got, b)
	}
}

// sameBatch tells whether two batches are the same, and neither has records.
func sameBatch(a, b api.Batch) bool {
	return a.Base == b.Base && a.Count == b.Count && a.View == b.View && a.Producer == b.Producer && a.Seq == b.Seq && len(a.Records)+len(b.Records) == 0
}

func (p *pair) put(b api.Batch) api.Errno {
	p.t.Helper()
	e := p.m.add(b)
	p.errno("Put", p.x.Put(b), e)
	p.waiting()
	return e
}

func (p *pair) find(id api.Id) {
	p.t.Helper()
	b, e := p.m.find(id)
	got, gotE := p.x.Find(id)
	p.errno("Find", gotE, e)
	p.batch("Find", got, b)
	p.told(id, got, gotE)
}

func (p *pair) ask(id api.Id, l []api.Record, committed int) (int, api.Errno) {
	p.t.Helper()
	b, state, e := p.m.ask(id, l, committed)
	got, gotState, gotE := p.x.Ask(id, l, committed)
	p.errno("Ask", gotE, e)
	p.batch("Ask", got, b)
	if gotState != state {
		p.t.Fatalf("Ask(%v, %d records, %d): state %d, not %d", id, len(l), committed, gotState, state)
	}
	if state != 3 {
		p.told(id, got, gotE)
	}
	p.waiting()
	return state, e
}

func (p *pair) wait(id api.Id, who int) api.Errno {
	p.t.Helper()
	e := p.m.begin(id, who)
	p.errno("Wait", p.x.Wait(id, who), e)
	p.waiting()
	return e
}

func (p *pair) done(committed int) []api.Ack {
	p.t.Helper()
	acks := p.m.done(committed)
	got := p.x.Done(committed)
	if !slices.Equal(got, acks) {
		p.t.Fatalf("Done(%d): %v, not %v", committed, got, acks)
	}
	for _, a := range got {
		b, e := p.m.find(a.Id)
		b.Base, b.Count = a.Base, a.Count
		p.told(a.Id, b, e)
	}
	p.waiting()
	return got
}

func (p *pair) cut(offset int) {
	p.t.Helper()
	p.errno("Cut", p.x.Cut(offset), p.m.cut(offset))
	for id := range p.at {
		if _, e := p.m.find(id); e != api.OK {
			delete(p.at, id)
		}
	}
	p.waiting()
}

func (p *pair) waiting() {
	p.t.Helper()
	if n := p.x.Waiting(); n != len(p.m.wait) || n > p.m.queue {
		p.t.Fatalf("Waiting: %d, not %d of %d", n, len(p.m.wait), p.m.queue)
	}
}

// told holds what is told of a batch to be what was told of it ahead.
func (p *pair) told(id api.Id, b api.Batch, e api.Errno) {
	p.t.Helper()
	if e != api.OK {
		return
	}
	if was, is := p.at[id]; is {
		p.batch("told again", b, was)
	}
	p.at[id] = b
}

// same holds all that a table tells to the model, without changing it.
func (p *pair) same() {
	p.t.Helper()
	for _, b := range p.m.put {
		p.find(idOf(b))
		for _, committed := range []int{0, end(b) - 1, end(b), end(b) + 1} {
			p.ask(idOf(b), nil, committed)
		}
	}
	p.ask(api.Id{Producer: 1<<31 - 1, Seq: 1<<31 - 1}, []api.Record{{}}, 0)
	p.waiting()
}

// emptied holds who waits to the model, in their order, by ending it.
func (p *pair) emptied() {
	p.t.Helper()
	p.same()
	p.done(1 << 41)
	if p.x.Waiting() != 0 {
		p.t.Fatal("there are some left:", p.x.Waiting())
	}
}

// some is a number: a few of them come often.
func some(r *rand.Rand, most int) int { return []int{0, 1, r.Intn(most + 1), most}[r.Intn(4)] }

func someRecords(r *rand.Rand) []api.Record {
	l := make([]api.Record, []int{0, 1, 2, 15, 16, 17, 255, 256, 257, r.Intn(300)}[r.Intn(10)])
	long := []int{0, 5, 200, 300, 4020, 4096}[r.Intn(6)]
	for i := range l {
		l[i] = api.Record{Offset: some(r, 300) - 9, Key: letters[:some(r, 64)], Gone: r.Intn(9) == 0}
		if !l[i].Gone {
			l[i].Value = letters[:some(r, long)]
		}
	}
	if len(l) > 0 && r.Intn(4) == 0 {
		l[r.Intn(len(l))] = []api.Record{{Key: letters[:65]}, {Value: letters[:4097]}, {Gone: true, Value: "v"}, {Offset: -1}}[r.Intn(4)]
	}
	return l
}

// walk is steps of all kinds, by whatever numbers, about few ids.
type walk struct {
	*pair
	r *rand.Rand
}

func (w *walk) id() api.Id {
	if w.r.Intn(20) == 0 {
		return api.Id{Producer: w.r.Intn(3) - 1, Seq: []int{-1, 0, 1<<31 - 1, 1 << 31}[w.r.Intn(4)]}
	}
	return api.Id{Producer: w.r.Intn(4), Seq: w.r.Intn(30)}
}

func (w *walk) lastEnd() int {
	if len(w.m.put) == 0 {
		return 0
	}
	return end(w.m.put[len(w.m.put)-1])
}

func (w *walk) offset() int {
	near := w.lastEnd() + w.r.Intn(9) - 6
	if len(w.m.put) > 0 && w.r.Intn(2) == 0 {
		near = end(w.m.put[w.r.Intn(len(w.m.put))]) + w.r.Intn(3) - 1
	}
	return near
}

func (w *walk) step(n int) {
	w.t.Helper()
	id := w.id()
	switch n % 16 {
	case 0:
		w.cut(w.offset())
	case 1, 2:
		w.done(w.offset())
	case 3, 4:
		w.ask(id, someRecords(w.r), w.offset())
	case 5:
		w.find(id)
	case 6:
		w.put(api.Batch{Base: w.offset(), Count: w.r.Intn(3), Producer: id.Producer, Seq: id.Seq})
	case 7, 8, 9, 10:
		w.put(api.Batch{Base: w.lastEnd() + w.r.Intn(2), Count: 1 + w.r.Intn(4), View: w.r.Intn(9), Producer: id.Producer, Seq: id.Seq})
	default:
		if len(w.m.put) > 0 && w.r.Intn(4) > 0 {
			id = idOf(w.m.put[w.r.Intn(len(w.m.put))])
		}
		w.wait(id, w.r.Intn(4)-1)
	}
}

// Se1, Se2, Se3: many steps of all kinds.
func TestSe3Walks(t *testing.T) {
	for seed := range int64(40) {
		w := &walk{newPair(t, []int{1, 2, 5, 64}[seed%4]), rand.New(rand.NewSource(seed))}
		for i := range 1500 {
			w.step(w.r.Intn(16))
			if i%50 == 0 {
				w.same()
			}
		}
		w.emptied()
	}
}

// FuzzSteps: whatever steps there are, the table is as the chapter says.
func FuzzSteps(f *testing.F) {
	f.Add(int64(1), []byte{7, 11, 12, 0, 2, 7, 11, 7, 3, 1})
	f.Fuzz(func(t *testing.T, seed int64, steps []byte) {
		w := &walk{newPair(t, 3), rand.New(rand.NewSource(seed))}
		for _, n := range steps[:min(len(steps), 500)] {
			w.step(int(n))
		}
		w.emptied()
	})
}

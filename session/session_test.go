package session_test

import (
	"math"
	"slices"
	"strings"
	"testing"

	"postroad/api"
	"postroad/session"
)

var letters = strings.Repeat("abcdefgh", 1000)

var one = []api.Record{{Key: "k", Value: "v"}}

func id(producer, seq int) api.Id { return api.Id{Producer: producer, Seq: seq} }

func at(base, count, producer, seq int) api.Batch {
	return api.Batch{Base: base, Count: count, Producer: producer, Seq: seq}
}

// filled is a table with batches of the producer 1, numbered from 0 on, that follow one another with these counts.
func filled(t testing.TB, queue int, counts ...int) *pair {
	t.Helper()
	p := newPair(t, queue)
	base := 0
	for seq, count := range counts {
		if e := p.put(at(base, count, 1, seq)); e != api.OK {
			t.Fatal(seq, e)
		}
		base += count
	}
	return p
}

func want[T comparable](t testing.TB, what string, got, right T) {
	t.Helper()
	if got != right {
		t.Errorf("%s: %v, not %v", what, got, right)
	}
}

// The chapter's example.
func TestSe2Example(t *testing.T) {
	p := newPair(t, 1)
	want(t, "Put", p.put(at(0, 2, 1, 1)), api.OK)
	want(t, "Wait", p.wait(id(1, 1), 100), api.OK)
	want(t, "Wait", p.wait(id(1, 1), 101), api.ErrQueue)
	if l := p.done(1); len(l) != 0 {
		t.Error(l)
	}
	if l := p.done(2); !slices.Equal(l, []api.Ack{{Step: 100, Id: id(1, 1), Base: 0, Count: 2}}) {
		t.Error(l)
	}
	want(t, "Waiting", p.x.Waiting(), 0)
}

// Se1: a queue of 1 to 64.
func TestSe1New(t *testing.T) {
	for _, queue := range []int{math.MinInt, -64, -1, 0, 65, 66, 128, 1<<32 + 1, math.MaxInt} {
		if x, e := session.New(queue); x != nil || e != api.ErrArg {
			t.Errorf("New(%d): %v, %d", queue, x, e)
		}
	}
	for queue := 1; queue <= 64; queue++ {
		p := newPair(t, queue)
		p.find(id(0, 0))
		if l := p.done(math.MaxInt); len(l) != 0 {
			t.Error(l)
		}
		p.put(at(0, 1, 0, 0))
		for who := range queue {
			want(t, "Ask", first(p.ask(id(0, 1), one, 0)), 3)
			want(t, "Wait", p.wait(id(0, 0), who), api.OK)
		}
		want(t, "Wait", p.wait(id(0, 0), queue), api.ErrQueue)
		_, e := p.ask(id(0, 1), one, 0)
		want(t, "Ask", e, api.ErrQueue)
		p.emptied()
	}
}

func first(state int, e api.Errno) int { return state }

func second(state int, e api.Errno) api.Errno { return e }

// Se1: what layer 10 refuses is refused, and leaves no trace.
func TestSe1PutMayNotBe(t *testing.T) {
	p := newPair(t, 1)
	const maxBase = 1<<40 - 256
	good := api.Batch{Base: 4, Count: 2, View: 3, Producer: 1, Seq: 2, Records: []api.Record{{Offset: 5, Key: "k", Value: "v"}}}
	for name, spoil := range map[string]func(b *api.Batch){
		"a base below 0":         func(b *api.Batch) { b.Base = -1 },
		"a base too great":       func(b *api.Batch) { b.Base, b.Records = maxBase+1, nil },
		"the greatest base":      func(b *api.Batch) { b.Base, b.Records = math.MaxInt, nil },
		"a count of 0":           func(b *api.Batch) { b.Count, b.Records = 0, nil },
		"a count below 0":        func(b *api.Batch) { b.Count, b.Records = -1, nil },
		"a count of 257":         func(b *api.Batch) { b.Count = 257 },
		"a view below 0":         func(b *api.Batch) { b.View = -1 },
		"a view too great":       func(b *api.Batch) { b.View = 1 << 31 },
		"a producer below 0":     func(b *api.Batch) { b.Producer = -1 },
		"a producer too great":   func(b *api.Batch) { b.Producer = 1 << 31 },
		"a number below 0":       func(b *api.Batch) { b.Seq = -1 },
		"a number too great":     func(b *api.Batch) { b.Seq = 1 << 31 },
		"a record ahead":         func(b *api.Batch) { b.Records = []api.Record{{Offset: 3}} },
		"a record behind":        func(b *api.Batch) { b.Records = []api.Record{{Offset: 6}} },
		"records that fall":      func(b *api.Batch) { b.Records = []api.Record{{Offset: 5}, {Offset: 4}} },
		"a record with too much": func(b *api.Batch) { b.Records = []api.Record{{Offset: 5, Key: letters[:65]}} },
	} {
		b := good
		spoil(&b)
		if e := p.x.Put(b); e != api.ErrArg {
			t.Error(name, e)
		}
		p.find(idOf(b))
	}
	want(t, "Put", p.put(good), api.OK)
	p.same()
	for _, b := range []api.Batch{at(6, 257, 1, 2), at(0, 0, 1, 3), at(-1, 1, 1, 3)} {
		want(t, "Put that may not be, and does not come next", p.put(b), api.ErrArg)
	}
	p.same()
}

// Se1: batches at the edges of what may be are noted, whole but for their records.
func TestSe1PutEdges(t *testing.T) {
	const most = 1<<31 - 1
	all := []api.Batch{
		at(0, 1, 0, 0),
		{Base: 1, Count: 256, View: most, Producer: most, Seq: most},
		{Base: 257, Count: 3, View: 7, Producer: 0, Seq: most, Records: []api.Record{{Offset: 258, Key: "k"}, {Offset: 259, Gone: true}}},
		{Base: 1<<40 - 257, Count: 1, View: 6, Producer: most, Seq: 0},
		{Base: 1<<40 - 256, Count: 256, View: 5, Producer: 5, Seq: 5},
	}
	p := newPair(t, 1)
	for _, b := range all {
		want(t, "Put", p.put(b), api.OK)
	}
	for _, b := range all {
		b.Records = nil
		got, e := p.x.Find(idOf(b))
		if e != api.OK || !sameBatch(got, b) {
			t.Error(got, e)
		}
	}
	p.same()
	for _, missing := range []api.Id{id(0, 1), id(1, 0), id(5, 0), id(0, 5), id(most, 5), id(-1, 0), id(0, -1), id(most+1, 0), id(math.MinInt, math.MaxInt)} {
		if b, e := p.x.Find(missing); e != api.ErrNone || !sameBatch(b, api.Batch{}) {
			t.Error(missing, b, e)
		}
	}
}

// Se1: a batch begins at the end of the one put last, or behind it, and is put once.
func TestSe1PutOrder(t *testing.T) {
	p := newPair(t, 1)
	want(t, "the first, anywhere", p.put(at(10, 5, 1, 7)), api.OK)
	for base := range 15 {
		want(t, "below the end", p.put(at(base, 1, 1, 8)), api.ErrOrder)
		want(t, "below the end, of another", p.put(at(base, 256, 2, 0)), api.ErrOrder)
	}
	for _, base := range []int{0, 10, 14, 15, 16, 1 << 39} {
		want(t, "once more", p.put(at(base, 5, 1, 7)), api.ErrOrder)
		want(t, "once more, as another", p.put(api.Batch{Base: base, Count: 2, View: 9, Producer: 1, Seq: 7}), api.ErrOrder)
	}
	p.same()
	want(t, "at the end", p.put(at(15, 1, 1, 3)), api.OK)
	want(t, "below it now", p.put(at(15, 1, 7, 1)), api.ErrOrder)
	want(t, "behind it", p.put(at(20, 2, 7, 1)), api.OK)
	want(t, "into the room that was left", p.put(at(17, 1, 7, 2)), api.ErrOrder)
	want(t, "the first one again", p.put(at(22, 5, 1, 7)), api.ErrOrder)
	p.same()
}

// Se2: a batch that stands is told with its state, whatever records are asked with, and though the queue is full.
func TestSe2AskStands(t *testing.T) {
	p := newPair(t, 1)
	p.put(at(10, 5, 1, 7))
	p.put(at(15, 2, 0, 0))
	check := func() {
		t.Helper()
		for _, l := range [][]api.Record{nil, {}, one, {{Gone: true, Value: "v"}}, make([]api.Record, 300), records(256, 4096)} {
			for committed, state := range map[int]int{0: 2, 9: 2, 10: 2, 14: 2, 15: 1, 16: 1, 17: 1, math.MaxInt: 1} {
				want(t, "Ask", first(p.ask(id(1, 7), l, committed)), state)
			}
			for committed, state := range map[int]int{0: 2, 15: 2, 16: 2, 17: 1, 18: 1} {
				want(t, "Ask", first(p.ask(id(0, 0), l, committed)), state)
			}
		}
	}
	check()
	p.wait(id(1, 7), 100)
	check()
	p.same()
}

func records(n, value int) []api.Record {
	l := make([]api.Record, n)
	for i := range l {
		l[i] = api.Record{Offset: i, Value: letters[:value]}
	}
	return l
}

// Se2: ids and committed offsets that may not be are told ahead of all else.
func TestSe2AskArg(t *testing.T) {
	p := newPair(t, 1)
	p.put(at(0, 1, 0, 0))
	for range 2 {
		for _, l := range [][]api.Record{one, nil} {
			for _, bad := range []int{-1, 1 << 31, 1<<31 + 1, 1 << 32, math.MinInt, math.MaxInt} {
				want(t, "Producer", second(p.ask(id(bad, 0), l, 0)), api.ErrArg)
				want(t, "Seq", second(p.ask(id(0, bad), l, 0)), api.ErrArg)
			}
			for _, bad := range []int{-1, -2, math.MinInt} {
				want(t, "committed, of one that stands", second(p.ask(id(0, 0), l, bad)), api.ErrArg)
				want(t, "committed", second(p.ask(id(0, 1), l, bad)), api.ErrArg)
			}
		}
		for _, good := range []int{0, 1, 1<<31 - 1} {
			state, e := p.ask(id(good, 1<<31-1), one, 0)
			if p.x.Waiting() == 0 && (state != 3 || e != api.OK) {
				t.Error(good, state, e)
			}
		}
		p.wait(id(0, 0), 5)
	}
}

// Se2: records that may not be asked for, and those at the edges that may.
func TestSe2AskLarge(t *testing.T) {
	p := newPair(t, 1)
	fill := func(n int) []api.Record { // records whose bytes are so many
		l := records(17, 3900)
		l[16].Value = ""
		l[16].Value = letters[:n-size(l)-1] // its length takes two bytes where that of none takes one
		if size(l) != n {
			t.Fatal(size(l))
		}
		return l
	}
	right := [][]api.Record{
		one, {{}}, {{Gone: true}}, {{Key: letters[:64], Value: letters[:4096]}}, {{Key: letters[:64], Gone: true}},
		make([]api.Record, 256), records(256, 0), records(256, 200), records(15, 4096), fill(65535), fill(65536),
	}
	wrong := [][]api.Record{
		nil, {}, make([]api.Record, 0, 9), make([]api.Record, 257), records(257, 0), records(300, 1), make([]api.Record, 1<<16),
		{{Key: letters[:65]}}, {{Value: letters[:4097]}}, {{Gone: true, Value: "v"}}, {{Key: letters[:65], Gone: true}},
		{{}, {Key: letters[:65]}}, {{Value: letters[:4097]}, {}}, {{}, {Gone: true, Value: "v"}, {}},
		fill(65537), fill(65538), records(16, 4096), records(256, 4096), records(256, 253), records(256, 254),
	}
	for i, l := range right {
		if state, e := p.ask(id(1, 1), l, 0); state != 3 || e != api.OK {
			t.Error("right", i, state, e)
		}
	}
	p.put(at(0, 1, 0, 0))
	for range 2 {
		for i, l := range wrong {
			if state, e := p.ask(id(1, 1), l, 0); state != 0 || e != api.ErrLarge {
				t.Error("wrong", i, state, e)
			}
		}
		p.wait(id(0, 0), 5) // what is too large is told ahead of a full queue
	}
	for i, l := range right {
		if state, e := p.ask(id(1, 1), l, 0); state != 0 || e != api.ErrQueue {
			t.Error("full", i, state, e)
		}
	}
}

// Se2: whatever offsets records are handed in with, they are taken with 0, 1, ..
func TestSe2AskOffsets(t *testing.T) {
	p := newPair(t, 1)
	for _, offsets := range [][]int{{0, 1}, {0, 0}, {1, 0}, {7, 9}, {-1, 0}, {math.MinInt, math.MaxInt}, {1 << 40, 1 << 41}} {
		l := []api.Record{{Offset: offsets[0], Key: "a"}, {Offset: offsets[1], Key: "b"}}
		if state, e := p.ask(id(1, 1), l, 0); state != 3 || e != api.OK {
			t.Error(offsets, state, e)
		}
	}
}

// Se2: to ask changes nothing: a batch is noted by Put alone.
func TestSe2AskNotes(t *testing.T) {
	p := newPair(t, 1)
	for range 3 {
		want(t, "Ask", first(p.ask(id(1, 1), one, 0)), 3)
		p.find(id(1, 1))
		want(t, "Wait", p.wait(id(1, 1), 7), api.ErrNone)
	}
	want(t, "Put", p.put(at(0, 1, 1, 1)), api.OK)
}

// Se2: who waits for a batch waits for it once; the same one may wait for others, and others for it.
func TestSe2Wait(t *testing.T) {
	p := filled(t, 4, 1, 1, 1)
	for _, missing := range []api.Id{id(1, 3), id(2, 0), id(0, 1), id(-1, 0), id(1, -1), id(1, math.MaxInt)} {
		want(t, "Wait for none", p.wait(missing, 100), api.ErrNone)
	}
	want(t, "Wait", p.wait(id(1, 0), 100), api.OK)
	want(t, "Wait again", p.wait(id(1, 0), 100), api.OK)
	want(t, "Waiting", p.x.Waiting(), 1)
	want(t, "Wait for another", p.wait(id(1, 1), 100), api.OK)
	want(t, "Wait, of another", p.wait(id(1, 0), math.MinInt), api.OK)
	want(t, "Wait, of another", p.wait(id(1, 2), 0), api.OK)
	want(t, "Waiting", p.x.Waiting(), 4)
	want(t, "Wait, in a full queue", p.wait(id(1, 2), 100), api.ErrQueue)
	want(t, "Wait for none, in a full queue", p.wait(id(9, 9), 100), api.ErrNone)
	for _, w := range slices.Clone(p.m.wait) {
		want(t, "Wait again, in a full queue", p.wait(w.id, w.who), api.OK)
	}
	want(t, "Waiting", p.x.Waiting(), 4)
	p.done(1)
	want(t, "Waiting", p.x.Waiting(), 2)
	want(t, "Wait for what is committed", p.wait(id(1, 0), 100), api.OK)
	p.emptied()
}

// Se2: Done tells in the order in which they began to wait, not in that of the offsets.
func TestSe2Done(t *testing.T) {
	p := filled(t, 64, 2, 3, 1, 4)
	for _, w := range []waits{{id(1, 3), 5}, {id(1, 1), 9}, {id(1, 0), 7}, {id(1, 1), 4}, {id(1, 2), 9}, {id(1, 0), 6}, {id(1, 3), 1}} {
		want(t, "Wait", p.wait(w.id, w.who), api.OK)
	}
	for _, c := range []struct {
		committed int
		acks      []api.Ack
	}{
		{math.MinInt, nil}, {-1, nil}, {0, nil}, {1, nil},
		{2, []api.Ack{{Step: 7, Id: id(1, 0), Base: 0, Count: 2}, {Step: 6, Id: id(1, 0), Base: 0, Count: 2}}},
		{2, nil}, {4, nil},
		{6, []api.Ack{{Step: 9, Id: id(1, 1), Base: 2, Count: 3}, {Step: 4, Id: id(1, 1), Base: 2, Count: 3}, {Step: 9, Id: id(1, 2), Base: 5, Count: 1}}},
		{0, nil}, {9, nil},
		{math.MaxInt, []api.Ack{{Step: 5, Id: id(1, 3), Base: 6, Count: 4}, {Step: 1, Id: id(1, 3), Base: 6, Count: 4}}},
		{math.MaxInt, nil},
	} {
		if got := p.done(c.committed); !slices.Equal(got, c.acks) {
			t.Errorf("Done(%d): %v, not %v", c.committed, got, c.acks)
		}
	}
	p.same()
	want(t, "Wait, once more", p.wait(id(1, 1), 9), api.OK)
	want(t, "Wait, once more", p.wait(id(1, 0), 9), api.OK)
	p.emptied()
}

// Se2: of each offset, what of the batches and of those who wait is left by a cut.
func TestSe2Cut(t *testing.T) {
	for offset := range 13 {
		p := newPair(t, 64)
		for i, b := range []api.Batch{at(1, 2, 1, 0), at(3, 1, 1, 1), at(5, 3, 2, 0), at(8, 2, 1, 2)} {
			p.put(b)
			p.wait(idOf(b), 100+i)
			p.wait(id(1, 0), 200+i)
		}
		p.cut(offset)
		left := map[int]int{3: 1, 4: 2, 5: 2, 6: 2, 7: 2, 8: 3, 9: 3, 10: 4, 11: 4, 12: 4}[offset]
		if len(p.m.put) != left {
			t.Fatal(offset, len(p.m.put))
		}
		for _, b := range []api.Batch{at(1, 2, 1, 0), at(3, 1, 1, 1), at(5, 3, 2, 0), at(8, 2, 1, 2)} {
			p.find(idOf(b))
			p.ask(idOf(b), one, 3)
			want(t, "Put", p.x.Put(at(0, 1, b.Producer, b.Seq)), p.m.add(at(0, 1, b.Producer, b.Seq)))
		}
		p.emptied()
	}
}

// Se2: what was forgotten may be put anew, elsewhere; those who waited for it do not wait for that.
func TestSe2CutPutAnew(t *testing.T) {
	p := filled(t, 2, 2, 3, 4)
	p.wait(id(1, 2), 100)
	p.wait(id(1, 0), 101)
	want(t, "Ask, in a full queue", second(p.ask(id(5, 5), one, 0)), api.ErrQueue)
	p.cut(8)
	want(t, "Waiting", p.x.Waiting(), 1)
	want(t, "Ask, with room again", first(p.ask(id(1, 2), one, 0)), 3)
	want(t, "below the end of what is left", p.put(at(4, 1, 1, 2)), api.ErrOrder)
	want(t, "at the end of what is left", p.put(at(5, 1, 1, 2)), api.OK)
	if got, _ := p.x.Find(id(1, 2)); got.Base != 5 || got.Count != 1 {
		t.Error(got)
	}
	if l := p.done(math.MaxInt); !slices.Equal(l, []api.Ack{{Step: 101, Id: id(1, 0), Base: 0, Count: 2}}) {
		t.Error(l)
	}
	p.cut(0)
	want(t, "the first one again", p.put(at(0, 1, 1, 1)), api.OK)
	p.same()
}

// Se2: cuts that forget nothing, and one that may not be.
func TestSe2CutNothing(t *testing.T) {
	p := filled(t, 1, 2, 3)
	p.wait(id(1, 1), 100)
	for _, offset := range []int{-1, -5, math.MinInt} {
		want(t, "Cut", p.x.Cut(offset), api.ErrArg)
		p.same()
	}
	for _, offset := range []int{5, 6, 1 << 40, math.MaxInt} {
		want(t, "Cut", p.x.Cut(offset), api.OK)
		p.same()
	}
	want(t, "Put", p.put(at(4, 1, 1, 2)), api.ErrOrder)
	want(t, "Put", p.put(at(5, 1, 1, 2)), api.OK)
	p.emptied()
	empty := newPair(t, 1)
	for _, offset := range []int{0, 1, math.MaxInt} {
		want(t, "Cut", empty.x.Cut(offset), api.OK)
	}
	want(t, "Put", empty.put(at(0, 1, 1, 2)), api.OK)
}

// Se3: however often a batch is asked for and put, at whatever offsets, it is noted once, and the same is told of it.
func TestSe3Once(t *testing.T) {
	p := filled(t, 64, 2, 3, 4)
	for i := range 50 {
		for seq := range 3 {
			want(t, "Put", p.put(at(9+i, 1+i, 1, seq)), api.ErrOrder)
			state := first(p.ask(id(1, seq), one, i))
			if state != 1 && state != 2 {
				t.Fatal(state)
			}
			want(t, "Wait", p.wait(id(1, seq), 100+i%5), api.OK)
			p.find(id(1, seq))
		}
		for _, a := range p.done(i) {
			right := []api.Batch{at(0, 2, 1, 0), at(2, 3, 1, 1), at(5, 4, 1, 2)}[a.Id.Seq]
			if a.Base != right.Base || a.Count != right.Count || a.Err != api.OK {
				t.Fatal(a)
			}
		}
		p.put(at(9+i, 1, 2, i))
	}
	p.emptied()
}

// Se1, Se2: many batches, and cuts from behind.
func TestSe2Many(t *testing.T) {
	x, _ := session.New(1)
	const n = 200000
	for i := range n {
		if e := x.Put(at(2*i, 2, i%7, i)); e != api.OK {
			t.Fatal(i, e)
		}
	}
	for i := n - 1; i > n/2; i-- {
		if e := x.Cut(2*i + i%2); e != api.OK {
			t.Fatal(i, e)
		}
		if _, e := x.Find(id(i%7, i)); e != api.ErrNone {
			t.Fatal(i, e)
		}
	}
	for i := range n/2 + 1 {
		if b, e := x.Find(id(i%7, i)); e != api.OK || b.Base != 2*i {
			t.Fatal(i, b, e)
		}
	}
}

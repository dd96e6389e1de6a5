package session_test

import (
	"math"
	"runtime"
	"slices"
	"testing"

	"postroad/api"
	"postroad/session"
)

// checkNotGiven holds a table that New did not give to what the chapter says of such a one.
func checkNotGiven(t *testing.T, x *session.Table) {
	t.Helper()
	want(t, "Put", x.Put(at(0, 1, 1, 0)), api.ErrArg)
	for _, i := range []api.Id{id(1, 0), id(0, 0), id(-1, -1)} {
		if b, e := x.Find(i); e != api.ErrArg || !sameBatch(b, api.Batch{}) {
			t.Error(b, e)
		}
		if b, state, e := x.Ask(i, one, 0); e != api.ErrArg || state != 0 || !sameBatch(b, api.Batch{}) {
			t.Error(b, state, e)
		}
		want(t, "Wait", x.Wait(i, 100), api.ErrArg)
	}
	if l := x.Done(math.MaxInt); len(l) != 0 {
		t.Error(l)
	}
	want(t, "Cut", x.Cut(0), api.ErrArg)
	want(t, "Cut", x.Cut(-1), api.ErrArg)
	want(t, "Waiting", x.Waiting(), 0)
}

// R1: tables that New did not give.
func TestR1NotGiven(t *testing.T) {
	checkNotGiven(t, nil)
	checkNotGiven(t, &session.Table{})
	checkNotGiven(t, new(session.Table))
	p := filled(t, 2, 1, 2)
	p.wait(id(1, 0), 100)
	byValue := *p.x
	checkNotGiven(t, &byValue)
	p.emptied()
}

// R1: each call ends at all arguments.
func TestR1Ends(t *testing.T) {
	wild := []int{math.MinInt, math.MinInt + 1, -1, 0, 1, 255, 256, 257, 1<<31 - 1, 1 << 31, 1<<40 - 256, 1 << 40, math.MaxInt - 1, math.MaxInt}
	for _, n := range wild {
		session.New(n)
		p := filled(t, 1, 1, 2)
		for _, k := range wild {
			p.find(id(n, k))
			p.put(at(n, k, 1, 9))
			p.put(at(9, 1, n, k))
			p.put(api.Batch{Base: 9, Count: 1, View: n, Records: []api.Record{{Offset: k}}})
			p.ask(id(n, k), one, 0)
			p.ask(id(1, 0), one, n)
			p.ask(id(1, 9), []api.Record{{Offset: n}, {Offset: k}}, 0)
			p.wait(id(1, 0), n)
			p.wait(id(n, k), k)
			p.done(n)
			p.cut(k)
		}
		p.emptied()
	}
}

// taken is how many bytes of memory a call takes.
func taken(call func()) uint64 {
	var before, behind runtime.MemStats
	runtime.ReadMemStats(&before)
	call()
	runtime.ReadMemStats(&behind)
	return behind.TotalAlloc - before.TotalAlloc
}

// R1: more records than may be take no room.
func TestR1Room(t *testing.T) {
	x, _ := session.New(1)
	many := make([]api.Record, 1<<20)
	if got := taken(func() { x.Ask(id(1, 1), many, 0) }); got > 1<<17 {
		t.Error("so many bytes are taken:", got)
	}
}

// R2: beside an error there is nothing, and what was refused has left no trace.
func TestR2Refused(t *testing.T) {
	p := filled(t, 1, 2, 3)
	p.wait(id(1, 1), 100)
	for range 2 {
		want(t, "Put", p.x.Put(at(4, 1, 1, 2)), api.ErrOrder)
		want(t, "Put", p.x.Put(at(5, 1, 1, 1)), api.ErrOrder)
		want(t, "Put", p.x.Put(at(5, 0, 1, 2)), api.ErrArg)
		want(t, "Wait", p.x.Wait(id(1, 0), 101), api.ErrQueue)
		want(t, "Wait", p.x.Wait(id(1, 2), 101), api.ErrNone)
		want(t, "Cut", p.x.Cut(-1), api.ErrArg)
		for e, ask := range map[api.Errno]func() (api.Batch, int, api.Errno){
			api.ErrArg:   func() (api.Batch, int, api.Errno) { return p.x.Ask(id(1, 1), one, -1) },
			api.ErrLarge: func() (api.Batch, int, api.Errno) { return p.x.Ask(id(1, 2), nil, 9) },
			api.ErrQueue: func() (api.Batch, int, api.Errno) { return p.x.Ask(id(1, 2), one, 9) },
		} {
			if b, state, got := ask(); got != e || state != 0 || !sameBatch(b, api.Batch{}) {
				t.Error(b, state, got, e)
			}
		}
		p.same()
	}
	want(t, "Put", p.put(at(5, 1, 1, 2)), api.OK)
	p.emptied()
}

// R3: records are read up to their end alone, left as they are, and not kept.
func TestR3Records(t *testing.T) {
	room := []api.Record{{Offset: 7, Key: "a"}, {Offset: 3, Key: "b"}, {Gone: true, Value: "may not be"}, {Offset: -1}}
	was := slices.Clone(room)
	p := newPair(t, 1)
	want(t, "Ask", first(p.ask(id(1, 1), room[:2], 0)), 3)
	want(t, "Ask", second(p.ask(id(1, 1), room[:3], 0)), api.ErrLarge)
	if !slices.Equal(room, was) {
		t.Error("Ask has changed its records")
	}
	b := at(3, 9, 1, 1)
	b.Records = room[1:2]
	want(t, "Put", p.put(b), api.OK)
	if !slices.Equal(room, was) {
		t.Error("Put has changed its records")
	}
	room[1] = api.Record{Offset: 4, Key: "another"}
	p.same()
}

// R3: answers are new memory: what becomes of them does not change what is told later.
func TestR3NewMemory(t *testing.T) {
	p := filled(t, 64, 1, 1, 1, 1)
	for who := range 20 {
		p.wait(id(1, who%4), who)
	}
	l := p.done(2)
	if len(l) != 10 {
		t.Fatal(len(l))
	}
	for _, a := range l[len(l):cap(l)] {
		if a != (api.Ack{}) {
			t.Error("in the spare room:", a)
		}
	}
	for i := range l[:cap(l)] {
		l[:cap(l)][i] = api.Ack{Step: -1}
	}
	p.emptied()
	b, _ := p.x.Find(id(1, 0))
	b.Base, b.Records = 77, one
	b, _, _ = p.x.Ask(id(1, 0), nil, 0)
	b.Base, b.Records = 78, one
	p.same()
}

// R3: nil and the empty list are the same.
func TestR3Empty(t *testing.T) {
	p := newPair(t, 1)
	for seq, l := range [][]api.Record{nil, {}, make([]api.Record, 0, 9)} {
		want(t, "Ask", second(p.ask(id(1, 1), l, 0)), api.ErrLarge)
		b := at(seq, 1, 1, seq+5)
		b.Records = l
		want(t, "Put", p.put(b), api.OK)
	}
	p.same()
}

// R4: tables know nothing of one another, and the same calls are answered the same.
func TestR4Same(t *testing.T) {
	var all []*pair
	for range 3 {
		all = append(all, filled(t, 1, 2, 3))
	}
	for i, p := range all {
		p.cut(5 - i)
		p.wait(id(1, 0), i)
	}
	for _, p := range all {
		p.same()
		p.emptied()
	}
}

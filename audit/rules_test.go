package audit_test

import (
	"math"
	"math/rand"
	"slices"
	"strconv"
	"strings"
	"sync"
	"testing"
	"time"

	"postroad/api"
	"postroad/audit"
)

// R1: each call ends at all arguments, and the answer is as the chapter says.
func TestR1Wild(t *testing.T) {
	numbers := []int{math.MinInt, math.MinInt + 1, -1, 0, 1, 2, 255, 256, 257, 1<<40 - 1, 1 << 40, 1<<40 + 1, math.MaxInt - 1, math.MaxInt}
	r := rand.New(rand.NewSource(3))
	one := func() int { return numbers[r.Intn(len(numbers))] }
	errno := func() api.Errno { return api.Errno(one() * r.Intn(2) * r.Intn(2)) }
	texts := []string{"", "a", "\x00\xff", strings.Repeat("long", 5000)}
	text := func() string { return texts[r.Intn(len(texts))] }
	body := func() []api.Record {
		var out []api.Record
		for range r.Intn(4) {
			out = append(out, api.Record{Offset: one(), Key: text(), Value: text(), Gone: r.Intn(2) == 0})
		}
		return out
	}
	for range 20000 {
		var s story
		for range r.Intn(5) {
			s.acks = append(s.acks, api.Ack{Step: one(), Id: api.Id{Producer: r.Intn(2), Seq: one()}, Err: errno(), Base: one(), Count: one()})
		}
		for range r.Intn(5) {
			s.fetched = append(s.fetched, api.Fetched{Step: one(), At: one(), From: one(), Err: errno(), Records: body()})
		}
		for range r.Intn(5) {
			s.said = append(s.said, audit.Said{Id: api.Id{Producer: r.Intn(2), Seq: one()}, Records: body()})
			if len(s.acks) > 0 && r.Intn(2) == 0 {
				s.said[len(s.said)-1].Id = s.acks[r.Intn(len(s.acks))].Id
			}
		}
		s.check(t)
	}
}

// inTime holds what is done to a time that is far beyond what it takes, and far below what going over all pairs would.
func inTime(t *testing.T, what string, do func() answer, right answer) {
	t.Helper()
	begin := time.Now()
	want(t, what, do(), right)
	if took := time.Since(begin); took > 30*time.Second {
		t.Error(what, "took", took)
	}
}

// R1: many acks, the longest ones there are.
func TestR1ManyAcks(t *testing.T) {
	const n = 300000
	l := make([]api.Ack, 2*n)
	for i := range l {
		l[i] = ack(i%n%7, i%n, (i%n*7919)%n*256, 256)
	}
	inTime(t, "Acks", func() answer { return acks(l...) }, fine)
	l[2*n-1] = ack(-1, 0, 255, 1)
	inTime(t, "Acks", func() answer { return acks(l...) }, answer{api.ErrOrder, 2*n - 1})
}

// R1: many fetches of many records, and many acks: none of a fetch's step or ahead of it, all at one offset, all of one key.
func TestR1ManyFetches(t *testing.T) {
	const n = 150000
	var s story
	for i := range n {
		key := strconv.Itoa(i)
		s.said = append(s.said, audit.Said{Id: api.Id{Seq: i}, Records: []api.Record{{Key: key}}})
		s.acks = append(s.acks, ackAt(i, 0, i, i, 1))
		s.fetched = append(s.fetched, api.Fetched{Step: i % 3, From: 0, Records: []api.Record{{Key: "0"}, {Offset: 1, Key: "1"}, {Offset: n, Key: "end"}}})
	}
	inTime(t, "Keeps", func() answer { return keeps(s.acks, s.fetched, s.said) }, fine)
	s.fetched[n-1].Step = 3
	inTime(t, "Keeps", func() answer { return keeps(s.acks, s.fetched, s.said) }, answer{api.ErrGone, n - 1})
	for i := range n {
		s.acks[i].Base, s.acks[i].Step = 5, 0
		s.said[i].Records[0].Key = "k"
		s.fetched[i] = api.Fetched{Step: 1, Records: []api.Record{{Offset: 5, Key: "k"}}}
	}
	inTime(t, "Keeps", func() answer { return keeps(s.acks, s.fetched, s.said) }, fine)
	inTime(t, "Fetches", func() answer { return fetches(s.fetched, s.said) }, fine)
	for i := range n {
		s.acks[i].Base = i
		s.fetched[i].Records[0].Offset = n + 1
	}
	inTime(t, "Keeps", func() answer { return keeps(s.acks, s.fetched, s.said) }, fine)
	inTime(t, "Fetches", func() answer { return fetches(s.fetched, s.said) }, fine)
}

// R2: where nothing is wrong the place is 0; of several that are wrong the first one is told.
func TestR2Place(t *testing.T) {
	a, bad := ack(0, 0, 0, 1), ack(0, 0, 1, 1)
	want(t, "no place", acks(a, a, a), fine)
	want(t, "the first", acks(a, bad, bad, bad), answer{api.ErrOrder, 1})
	l := []audit.Said{said(0, 0, "a=1")}
	want(t, "the first", fetches([]api.Fetched{fetch(0, 0, "0a=1"), fetch(0, 0, "1x"), fetch(0, 1, "0a=1"), fetch(0, 0, "1x")}, l), answer{api.ErrNone, 1})
	want(t, "the first", keeps([]api.Ack{ackAt(-1, 0, 0, 0, 1)}, []api.Fetched{fetch(0, 0, "0a=1"), fetch(0, 0, "1x"), fetch(0, 0, "2x")}, l), answer{api.ErrGone, 1})
}

// spaced has room behind a list's end, with things in it that would be told, were they read.
func spaced[T any](l []T, behind ...T) []T { return append(slices.Clip(l), behind...)[:len(l)] }

// spare gives each list of a story such room.
func (s *story) spare() {
	wrong := api.Record{Offset: -5, Key: "never said"}
	for i := range s.fetched {
		f := &s.fetched[i]
		f.Records = spaced(f.Records, wrong, api.Record{Offset: 1 << 50, Key: "a"})
	}
	for i := range s.said {
		s.said[i].Records = spaced(s.said[i].Records, wrong)
	}
	s.acks = spaced(s.acks, api.Ack{Base: -1})
	s.fetched = spaced(s.fetched, api.Fetched{Records: []api.Record{wrong, wrong}})
	s.said = spaced(s.said, audit.Said{Records: []api.Record{wrong}})
}

// copied is a story of which nothing is shared.
func (s *story) copied() story {
	c := story{slices.Clone(s.acks), slices.Clone(s.fetched), slices.Clone(s.said)}
	for i := range c.fetched {
		c.fetched[i].Records = slices.Clone(c.fetched[i].Records)
	}
	for i := range c.said {
		c.said[i].Records = slices.Clone(c.said[i].Records)
	}
	return c
}

// checkSame tells whether two stories are the same, also in the room behind the ends of their lists.
func checkSame(t *testing.T, a, b story) {
	t.Helper()
	same := func(a, b []api.Record) bool { return slices.Equal(a[:cap(a)], b[:cap(b)]) }
	if !slices.Equal(a.acks[:cap(a.acks)], b.acks[:cap(b.acks)]) {
		t.Fatal("acks were changed")
	}
	if !slices.EqualFunc(a.fetched[:cap(a.fetched)], b.fetched[:cap(b.fetched)], func(a, b api.Fetched) bool {
		return a.Step == b.Step && a.At == b.At && a.From == b.From && a.Err == b.Err && same(a.Records, b.Records)
	}) {
		t.Fatal("fetches were changed")
	}
	if !slices.EqualFunc(a.said[:cap(a.said)], b.said[:cap(b.said)], func(a, b audit.Said) bool {
		return a.Id == b.Id && same(a.Records, b.Records)
	}) {
		t.Fatal("what was said was changed")
	}
}

// R3: what is handed in is not changed, and not read beyond its end.
func TestR3HandedIn(t *testing.T) {
	r := rand.New(rand.NewSource(4))
	for range 3000 {
		s := someStory(r)
		for range r.Intn(3) {
			s.spoil(r)
		}
		a, b := s.copied(), s.copied()
		a.spare()
		b.spare()
		a.check(t)
		checkSame(t, a, b)
		want(t, "Acks", acks(a.acks...), acks(s.acks...))
		want(t, "Fetches", fetches(a.fetched, a.said), fetches(s.fetched, s.said))
		want(t, "Keeps", keeps(a.acks, a.fetched, a.said), keeps(s.acks, s.fetched, s.said))
	}
}

// R3: nil and the empty list are the same.
func TestR3Empty(t *testing.T) {
	none, nobody, nothing := []api.Fetched{}, []audit.Said{}, []api.Ack{}
	want(t, "Acks", acks(nothing...), fine)
	want(t, "Fetches", fetches(none, nobody), fine)
	want(t, "Keeps", keeps(nothing, none, nobody), fine)
	for _, empty := range [][]api.Record{nil, {}} {
		l := []audit.Said{{Records: empty}, said(0, 1, "a=1")}
		f := []api.Fetched{{Step: 5, From: 7, Records: empty}, fetch(6, 0, "3a=1")}
		want(t, "Fetches", fetches(f, l), fine)
		want(t, "Keeps", keeps([]api.Ack{ack(0, 0, 0, 1), ack(0, 1, 3, 1)}, f, l), fine)
	}
}

// R4: the same is answered again, also by calls that go on at one time; nothing hangs on others.
func TestR4Same(t *testing.T) {
	var all []story
	r := rand.New(rand.NewSource(5))
	for range 300 {
		s := someStory(r)
		for range r.Intn(4) {
			s.spoil(r)
		}
		all = append(all, s)
	}
	tell := func(s story) [3]answer {
		return [3]answer{acks(s.acks...), fetches(s.fetched, s.said), keeps(s.acks, s.fetched, s.said)}
	}
	var first [][3]answer
	for _, s := range all {
		first = append(first, tell(s))
	}
	var group sync.WaitGroup
	for worker := range 4 {
		group.Go(func() {
			for i := range all {
				at := (i*(2*worker+7) + worker) % len(all)
				want(t, "again", tell(all[at]), first[at])
			}
		})
	}
	group.Wait()
}

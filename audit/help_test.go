package audit_test

import (
	"math/rand"
	"slices"
	"strconv"
	"strings"
	"testing"

	"postroad/api"
	"postroad/audit"
)

func want[T comparable](t testing.TB, what string, got, right T) {
	t.Helper()
	if got != right {
		t.Errorf("%s: %v, not %v", what, got, right)
	}
}

// answer is what each of the calls answers.
type answer struct {
	e     api.Errno
	place int
}

var fine = answer{}

func acks(l ...api.Ack) answer {
	e, i := audit.Acks(l)
	return answer{e, i}
}

func fetches(l []api.Fetched, said []audit.Said) answer {
	e, i := audit.Fetches(l, said)
	return answer{e, i}
}

func keeps(acks []api.Ack, l []api.Fetched, said []audit.Said) answer {
	e, i := audit.Keeps(acks, l, said)
	return answer{e, i}
}

func ack(producer, seq, base, count int) api.Ack {
	return api.Ack{Id: api.Id{Producer: producer, Seq: seq}, Base: base, Count: count}
}

func ackAt(step, producer, seq, base, count int) api.Ack {
	a := ack(producer, seq, base, count)
	a.Step = step
	return a
}

// records are those that a text tells: 3k=v 4k, the last one gone; without an offset they are numbered.
func records(text string) []api.Record {
	var out []api.Record
	for i, word := range strings.Fields(text) {
		n := strings.IndexFunc(word, func(r rune) bool { return r >= 'a' })
		offset, e := strconv.Atoi(word[:n])
		if e != nil {
			offset = i
		}
		key, value, is := strings.Cut(word[n:], "=")
		out = append(out, api.Record{Offset: offset, Key: key, Value: value, Gone: !is})
	}
	return out
}

func said(producer, seq int, text string) audit.Said {
	return audit.Said{Id: api.Id{Producer: producer, Seq: seq}, Records: records(text)}
}

func fetch(step, from int, text string) api.Fetched {
	return api.Fetched{Step: step, From: from, Records: records(text)}
}

// The chapter's words, gone over from the beginning for each thing anew.

func isGood(a api.Ack) bool {
	return a.Err == api.OK && 0 <= a.Base && a.Base <= 1<<40 && 1 <= a.Count && a.Count <= 256
}

func goWith(a, b api.Ack) bool {
	if a.Id == b.Id {
		return a.Base == b.Base && a.Count == b.Count
	}
	for i := range a.Count {
		if at := a.Base + i; at >= b.Base && at < b.Base+b.Count {
			return false
		}
	}
	return true
}

func rightAcks(l []api.Ack) answer {
	for i, a := range l {
		if a.Err != api.OK {
			continue
		}
		if !isGood(a) {
			return answer{api.ErrOrder, i}
		}
		for _, b := range l[:i] {
			if isGood(b) && !goWith(a, b) {
				return answer{api.ErrOrder, i}
			}
		}
	}
	return fine
}

func isOrdered(f api.Fetched, ahead []api.Fetched) bool {
	for i, r := range f.Records {
		if r.Offset < f.From || i > 0 && r.Offset <= f.Records[i-1].Offset {
			return false
		}
		for _, g := range ahead {
			if g.Err == api.OK && slices.ContainsFunc(g.Records, func(b api.Record) bool { return b.Offset == r.Offset && b != r }) {
				return false
			}
		}
	}
	return true
}

func isSaid(r api.Record, said []audit.Said) bool {
	return slices.ContainsFunc(said, func(s audit.Said) bool {
		return slices.ContainsFunc(s.Records, func(b api.Record) bool {
			return b.Key == r.Key && b.Value == r.Value && b.Gone == r.Gone
		})
	})
}

func rightFetches(l []api.Fetched, said []audit.Said) answer {
	for i, f := range l {
		if f.Err != api.OK {
			continue
		}
		if !isOrdered(f, l[:i]) {
			return answer{api.ErrOrder, i}
		}
		for _, r := range f.Records {
			if !isSaid(r, said) {
				return answer{api.ErrNone, i}
			}
		}
	}
	return fine
}

// laid are the records of a batch that was said, at the offsets that its first good ack names; none, if there is none, or it is not the first said of its Id.
func laid(place int, acks []api.Ack, said []audit.Said) []api.Record {
	id := said[place].Id
	first := slices.IndexFunc(acks, func(a api.Ack) bool { return isGood(a) && a.Id == id })
	if first < 0 || slices.IndexFunc(said, func(s audit.Said) bool { return s.Id == id }) != place {
		return nil
	}
	var out []api.Record
	for i, r := range said[place].Records {
		if i < acks[first].Count {
			r.Offset = acks[first].Base + i
			out = append(out, r)
		}
	}
	return out
}

// isBehind tells whether a record of the key of this one is at a higher offset.
func isBehind(r api.Record, l []api.Record) bool {
	return slices.ContainsFunc(l, func(b api.Record) bool { return b.Key == r.Key && b.Offset > r.Offset })
}

func rightKeeps(acks []api.Ack, l []api.Fetched, said []audit.Said) answer {
	var all []api.Record
	for place := range said {
		all = append(all, laid(place, acks, said)...)
	}
	for _, f := range l {
		if f.Err == api.OK {
			all = append(all, f.Records...)
		}
	}
	for i, f := range l {
		if f.Err != api.OK || len(f.Records) == 0 {
			continue
		}
		last := f.Records[len(f.Records)-1].Offset
		for place, s := range said {
			if !slices.ContainsFunc(acks, func(a api.Ack) bool { return isGood(a) && a.Id == s.Id && a.Step < f.Step }) {
				continue
			}
			for _, r := range laid(place, acks, said) {
				if r.Offset >= f.From && r.Offset <= last && !slices.Contains(f.Records, r) && !isBehind(r, all) {
					return answer{api.ErrGone, i}
				}
			}
		}
	}
	return fine
}

// story is what is told of a log by chance: mostly it could be told of one.
type story struct {
	acks    []api.Ack
	fetched []api.Fetched
	said    []audit.Said
}

func someRecords(r *rand.Rand, n int) []api.Record {
	var out []api.Record
	for i := range n {
		one := api.Record{Offset: i, Key: string(rune('a' + r.Intn(5))), Gone: r.Intn(5) == 0}
		if !one.Gone {
			one.Value = string(rune('0' + r.Intn(10)))
		}
		out = append(out, one)
	}
	return out
}

// someStory tells of some batches that follow one another, acked in some step, and of fetches of parts of them, some of whose records went because others of their keys came.
func someStory(r *rand.Rand) story {
	var s story
	var log []api.Record
	for step := range 2 + r.Intn(8) {
		l := someRecords(r, 1+r.Intn(4))
		id := api.Id{Producer: r.Intn(3), Seq: step}
		s.said = append(s.said, audit.Said{Id: id, Records: l})
		for range r.Intn(3) {
			s.acks = append(s.acks, api.Ack{Step: 10 * step, Id: id, Base: len(log), Count: len(l)})
		}
		for _, one := range l {
			one.Offset = len(log)
			log = append(log, one)
		}
		for range r.Intn(3) {
			s.fetched = append(s.fetched, someFetch(r, 10*step+r.Intn(3)-1, log))
		}
	}
	return s
}

func someFetch(r *rand.Rand, step int, log []api.Record) api.Fetched {
	from := r.Intn(len(log) + 1)
	f := api.Fetched{Step: step, At: r.Intn(3), From: from}
	for _, one := range log[from : from+r.Intn(len(log)-from+1)] {
		if !isBehind(one, log) || r.Intn(2) == 0 {
			f.Records = append(f.Records, one)
		}
	}
	return f
}

// spoil changes one thing of it.
func (s *story) spoil(r *rand.Rand) {
	some := func() int { return r.Intn(9) - 2 }
	switch n := r.Intn(12); {
	case n < 5 && len(s.acks) > 0:
		a := &s.acks[r.Intn(len(s.acks))]
		field := []*int{&a.Step, &a.Id.Seq, &a.Id.Producer, &a.Base, &a.Count, (*int)(&a.Err)}[r.Intn(6)]
		*field = some()
		if r.Intn(3) == 0 {
			s.acks[r.Intn(len(s.acks))] = s.acks[r.Intn(len(s.acks))]
		}
	case n < 9 && len(s.fetched) > 0:
		f := &s.fetched[r.Intn(len(s.fetched))]
		field := []*int{&f.Step, &f.From, &f.From, (*int)(&f.Err)}[r.Intn(4)]
		if r.Intn(2) == 0 {
			*field = some()
		}
		if len(f.Records) > 0 {
			i := r.Intn(len(f.Records))
			f.Records[i] = s.someRecord(r)
			if r.Intn(2) == 0 {
				f.Records = slices.Delete(f.Records, i, i+1)
			}
		}
	default:
		b := &s.said[r.Intn(len(s.said))]
		switch r.Intn(4) {
		case 0:
			b.Records = b.Records[:r.Intn(len(b.Records)+1)]
		case 1:
			b.Records = someRecords(r, r.Intn(6))
		case 2:
			b.Id = s.said[r.Intn(len(s.said))].Id
		default:
			b.Id = api.Id{Producer: some(), Seq: some()}
		}
	}
}

func (s *story) someRecord(r *rand.Rand) api.Record {
	one := someRecords(r, 1)[0]
	one.Offset = r.Intn(20) - 1
	return one
}

// check holds all three calls to the chapter's words.
func (s *story) check(t testing.TB) {
	t.Helper()
	want(t, "Acks", acks(s.acks...), rightAcks(s.acks))
	want(t, "Fetches", fetches(s.fetched, s.said), rightFetches(s.fetched, s.said))
	want(t, "Keeps", keeps(s.acks, s.fetched, s.said), rightKeeps(s.acks, s.fetched, s.said))
	if t.Failed() {
		t.Fatalf("%+v", *s)
	}
}

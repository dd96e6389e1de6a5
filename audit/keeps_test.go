package audit_test

import (
	"math"
	"math/rand"
	"testing"

	"postroad/api"
	"postroad/audit"
)

// Au3: what was acked is fetched.
func TestAu3Told(t *testing.T) {
	l := []audit.Said{said(0, 0, "a=1 b=2"), said(0, 1, "c")}
	both := []api.Ack{ackAt(1, 0, 0, 0, 2), ackAt(1, 0, 1, 2, 1)}
	want(t, "nothing", keeps(nil, nil, nil), fine)
	want(t, "all", keeps(both, []api.Fetched{fetch(5, 0, "0a=1 1b=2 2c")}, l), fine)
	for _, text := range []string{"1b=2 2c", "0a=1 2c", "0a=2 1b=2 2c", "0a 1b=2 2c", "1a=1 2c", "0b=2 1b=2 2c", "2c", "0a=1 1b 2c", "1b=2"} {
		want(t, text, keeps(both, []api.Fetched{fetch(5, 0, ""), fetch(5, 0, "0a=1 1b=2"), fetch(5, 0, text), fetch(5, 0, "2c")}, l), answer{api.ErrGone, 2})
	}
	want(t, "nothing said", keeps(both, []api.Fetched{fetch(5, 0, "2c")}, nil), fine)
	want(t, "nothing acked", keeps(nil, []api.Fetched{fetch(5, 0, "2c")}, l), fine)
	want(t, "the other one acked", keeps(both[1:], []api.Fetched{fetch(5, 0, "2c")}, l), fine)
	want(t, "another Id said", keeps(both, []api.Fetched{fetch(5, 0, "2c")}, []audit.Said{said(1, 0, "a=1 b=2"), said(0, 2, "a=1")}), fine)
	want(t, "said with other offsets", keeps(both, []api.Fetched{fetch(5, 0, "0a=1 1b=2")}, []audit.Said{said(0, 0, "7a=1 5b=2")}), fine)
}

// Au3: what is below From, or above the last record, is not looked for; nor is anything in a fetch without records.
func TestAu3Part(t *testing.T) {
	l := []audit.Said{said(0, 0, "a=1 b=2 c=3 d=4")}
	one := []api.Ack{ackAt(1, 0, 0, 10, 4)}
	for _, f := range []api.Fetched{fetch(5, 11, "11b=2"), fetch(5, 11, "11b=2 12c=3"), fetch(5, 13, "13d=4"), fetch(5, 14, "15x"), fetch(5, 0, "9x"), fetch(5, 0, ""), fetch(5, 13, "10y"), fetch(5, math.MaxInt, "10y")} {
		want(t, "not looked for", keeps(one, []api.Fetched{f}, l), fine)
	}
	for _, f := range []api.Fetched{fetch(5, 10, "11b=2"), fetch(5, 11, "12c=3"), fetch(5, 13, "14x"), fetch(5, 0, "10x"), fetch(5, math.MinInt, "10a=1 14x"), fetch(5, 10, "13d=4")} {
		want(t, "looked for", keeps(one, []api.Fetched{f}, l), answer{api.ErrGone, 0})
	}
	// of records that do not rise the last one is not the highest
	want(t, "up to the last one", keeps(one, []api.Fetched{fetch(5, 10, "13x 11b=2 10a=1")}, l), fine)
	want(t, "up to the last one", keeps(one, []api.Fetched{fetch(5, 10, "9y 11b=2 10a=1 11b=2")}, l), fine)
	want(t, "up to the last one", keeps(one, []api.Fetched{fetch(5, 10, "9y 11b=2 10a=1 12x")}, l), answer{api.ErrGone, 0})
}

// Au3: what was acked in the fetch's step, or behind it, is not looked for.
func TestAu3Steps(t *testing.T) {
	l := []audit.Said{said(0, 0, "a=1")}
	f := []api.Fetched{fetch(5, 0, "1x")}
	for step, right := range map[int]answer{math.MinInt: {api.ErrGone, 0}, 4: {api.ErrGone, 0}, 5: fine, 6: fine, math.MaxInt: fine} {
		want(t, "one ack", keeps([]api.Ack{ackAt(step, 0, 0, 0, 1)}, f, l), right)
		want(t, "another one behind", keeps([]api.Ack{ackAt(step, 0, 0, 0, 1), ackAt(7, 0, 0, 0, 1)}, f, l), right)
		want(t, "another one ahead in the list", keeps([]api.Ack{ackAt(7, 0, 0, 0, 1), ackAt(step, 0, 0, 0, 1)}, f, l), right)
	}
	last := []api.Fetched{fetch(math.MaxInt, 0, "1x")}
	want(t, "in the last step", keeps([]api.Ack{ackAt(math.MaxInt, 0, 0, 0, 1)}, last, l), fine)
	want(t, "ahead of the last step", keeps([]api.Ack{ackAt(math.MaxInt-1, 0, 0, 0, 1)}, last, l), answer{api.ErrGone, 0})
	want(t, "the first fetch behind", keeps([]api.Ack{ackAt(6, 0, 0, 0, 1)}, []api.Fetched{f[0], fetch(6, 0, "1x"), fetch(7, 0, "1x"), fetch(8, 0, "1x")}, l), answer{api.ErrGone, 2})
}

// Au3: of two batches that tell the same record at the same offset each one is looked for.
func TestAu3Twice(t *testing.T) {
	l := []audit.Said{said(0, 0, "a=1"), said(0, 1, "a=1"), said(0, 2, "b=2")}
	for _, steps := range [][2]int{{1, 9}, {9, 1}, {1, 1}} {
		both := []api.Ack{ackAt(steps[0], 0, 0, 0, 1), ackAt(steps[1], 0, 1, 0, 1), ackAt(1, 0, 2, 1, 1)}
		want(t, "looked for", keeps(both, []api.Fetched{fetch(5, 0, "1b=2")}, l), answer{api.ErrGone, 0})
		want(t, "told", keeps(both, []api.Fetched{fetch(5, 0, "0a=1 1b=2")}, l), fine)
		want(t, "the one behind them", keeps(both, []api.Fetched{fetch(5, 0, "0a=1 2x")}, l), answer{api.ErrGone, 0})
		want(t, "ahead of both", keeps(both, []api.Fetched{fetch(1, 0, "1b=2")}, l), fine)
	}
}

// Au3: the first good ack of an Id tells the offsets.
func TestAu3FirstAck(t *testing.T) {
	l := []audit.Said{said(0, 0, "a=1")}
	lost := ackAt(1, 0, 0, 3, 1)
	refused, far, none := lost, lost, lost
	refused.Err, far.Base, none.Count = api.ErrQueue, -1, 0
	f := []api.Fetched{fetch(5, 0, "8a=1 9x")}
	want(t, "at another offset", keeps([]api.Ack{lost}, []api.Fetched{fetch(5, 0, "0a=1 9x")}, l), answer{api.ErrGone, 0})
	want(t, "the first good one", keeps([]api.Ack{refused, far, none, ackAt(2, 0, 0, 8, 1), ackAt(3, 0, 0, 9, 1)}, f, l), fine)
	want(t, "not the second one", keeps([]api.Ack{refused, far, none, ackAt(2, 0, 0, 9, 1), ackAt(3, 0, 0, 8, 1)}, f, l), answer{api.ErrGone, 0})
	want(t, "no good one", keeps([]api.Ack{refused, far, none}, []api.Fetched{fetch(5, 0, "9x")}, l), fine)
	for _, count := range []int{-1, 0, api.MaxRecords + 1} {
		want(t, "Count", keeps([]api.Ack{ackAt(1, 0, 0, 3, count)}, []api.Fetched{fetch(5, 0, "9x")}, l), fine)
	}
	for base, right := range map[int]answer{-1: fine, 0: {api.ErrGone, 0}, api.MaxOffset: {api.ErrGone, 0}, api.MaxOffset + 1: fine} {
		want(t, "Base", keeps([]api.Ack{ackAt(1, 0, 0, base, 1)}, []api.Fetched{{Step: 5, From: -9, Records: []api.Record{{Offset: 1 << 50}}}}, l), right)
	}
}

// Au3: the first said of an Id tells the records.
func TestAu3FirstSaid(t *testing.T) {
	a, b := said(0, 0, "a=1"), said(0, 0, "b=2")
	one := []api.Ack{ackAt(1, 0, 0, 0, 1)}
	want(t, "the first", keeps(one, []api.Fetched{fetch(5, 0, "0a=1")}, []audit.Said{a, b}), fine)
	want(t, "not the second", keeps(one, []api.Fetched{fetch(5, 0, "0b=2")}, []audit.Said{a, b}), answer{api.ErrGone, 0})
	want(t, "the first, without records", keeps(one, []api.Fetched{fetch(5, 0, "0x")}, []audit.Said{said(0, 0, ""), b}), fine)
}

// Au3: a batch with fewer records than Count, and with more.
func TestAu3Count(t *testing.T) {
	for count, right := range map[int]answer{1: fine, 2: fine, 3: {api.ErrGone, 0}, 4: {api.ErrGone, 0}, api.MaxRecords: {api.ErrGone, 0}} {
		f := []api.Fetched{fetch(5, 0, "0a=1 1b=2 2x 9y")}
		want(t, "Count", keeps([]api.Ack{ackAt(1, 0, 0, 0, count)}, f, []audit.Said{said(0, 0, "a=1 b=2 c=3")}), right)
	}
	fewer := []audit.Said{said(0, 0, "a=1")}
	want(t, "fewer records", keeps([]api.Ack{ackAt(1, 0, 0, 0, 256)}, []api.Fetched{fetch(5, 0, "0a=1 300x")}, fewer), fine)
	// a record that the batch takes no offset for is not behind another one
	behind := []audit.Said{said(0, 0, "a=1 a=2")}
	want(t, "behind Count", keeps([]api.Ack{ackAt(1, 0, 0, 0, 1)}, []api.Fetched{fetch(5, 0, "9x")}, behind), answer{api.ErrGone, 0})
	want(t, "within Count", keeps([]api.Ack{ackAt(1, 0, 0, 0, 2)}, []api.Fetched{fetch(5, 0, "0x")}, behind), fine)
}

// Au3: a record need not be told, if one of its key stands at a higher offset, in whichever fetch, or among what was said and acked.
func TestAu3Behind(t *testing.T) {
	l := []audit.Said{said(0, 0, "a=1"), said(0, 1, "a=2"), said(0, 2, "a")}
	one := []api.Ack{ackAt(1, 0, 0, 4, 1)}
	lacks := fetch(5, 0, "9x")
	refused := fetch(5, 0, "10a=2")
	refused.Err = api.ErrDown
	want(t, "nowhere", keeps(one, []api.Fetched{lacks}, l), answer{api.ErrGone, 0})
	want(t, "in it", keeps(one, []api.Fetched{fetch(5, 0, "5a=7")}, l), fine)
	want(t, "gone in it", keeps(one, []api.Fetched{fetch(5, 0, "5a 9x")}, l), fine)
	want(t, "in one ahead", keeps(one, []api.Fetched{fetch(0, 0, "10a=2"), lacks}, l), fine)
	want(t, "in one behind", keeps(one, []api.Fetched{lacks, fetch(0, 10, "10a=2")}, l), fine)
	want(t, "below its From", keeps(one, []api.Fetched{lacks, fetch(0, 99, "10a=2")}, l), fine)
	want(t, "in one that is refused", keeps(one, []api.Fetched{refused, lacks}, l), answer{api.ErrGone, 1})
	want(t, "another key", keeps(one, []api.Fetched{lacks, fetch(9, 9, "10b=2")}, l), answer{api.ErrGone, 0})
	want(t, "at its own offset", keeps(one, []api.Fetched{lacks, fetch(0, 4, "4a=2")}, l), answer{api.ErrGone, 0})
	want(t, "below it", keeps(one, []api.Fetched{lacks, fetch(0, 0, "3a=2")}, l), answer{api.ErrGone, 0})
	for step := range 9 {
		acked := append([]api.Ack{ackAt(step, 0, 1, 5, 1)}, one...)
		want(t, "acked", keeps(acked, []api.Fetched{lacks, fetch(3, 9, "9x"), fetch(1, 5, "9x")}, l[:1]), answer{api.ErrGone, 0})
		want(t, "said and acked", keeps(acked, []api.Fetched{fetch(5, 0, "4x")}, l), fine)
		acked[0].Base = 3
		want(t, "said and acked, below it", keeps(acked, []api.Fetched{fetch(5, 4, "4x")}, l), answer{api.ErrGone, 0})
		acked[0].Base, acked[0].Err = 5, api.ErrQueue
		want(t, "said and refused", keeps(acked, []api.Fetched{fetch(5, 4, "4x")}, l), answer{api.ErrGone, 0})
	}
	twice := []audit.Said{l[0], said(0, 1, "b"), l[1]}
	want(t, "said second", keeps(append(one, ackAt(9, 0, 1, 5, 1)), []api.Fetched{fetch(5, 0, "4x")}, twice), answer{api.ErrGone, 0})
	moved := append(one, ackAt(9, 0, 1, 3, 1), ackAt(9, 0, 1, 5, 1))
	want(t, "acked second", keeps(moved, []api.Fetched{fetch(5, 4, "4x")}, l), answer{api.ErrGone, 0})
	want(t, "the one behind is lacked", keeps(append(one, ackAt(1, 0, 1, 5, 1)), []api.Fetched{lacks}, l), answer{api.ErrGone, 0})
}

// Au3: fetches that are not OK, and such as have no records, are passed over.
func TestAu3Errors(t *testing.T) {
	l := []audit.Said{said(0, 0, "a=1")}
	one := []api.Ack{ackAt(1, 0, 0, 0, 1)}
	for _, e := range []api.Errno{api.ErrDown, api.ErrArg, -1} {
		wrong := fetch(5, 0, "1x")
		wrong.Err = e
		want(t, "passed over", keeps(one, []api.Fetched{wrong, fetch(5, 0, ""), fetch(5, 0, "0a=1")}, l), fine)
		want(t, "counted", keeps(one, []api.Fetched{wrong, fetch(5, 0, ""), fetch(5, 0, "1x"), wrong}, l), answer{api.ErrGone, 2})
	}
}

// Au1, Au2, Au3: what is told of a log is fine; whatever is changed of it is answered as the chapter says.
func TestAu3Stories(t *testing.T) {
	r := rand.New(rand.NewSource(2))
	seen := map[answer]int{}
	for range 20000 {
		s := someStory(r)
		if n := acks(s.acks...); n != fine {
			t.Fatalf("Acks: %v of %+v", n, s)
		}
		if n := fetches(s.fetched, s.said); n != fine {
			t.Fatalf("Fetches: %v of %+v", n, s)
		}
		s.check(t)
		for range 1 + r.Intn(6) {
			s.spoil(r)
			s.check(t)
			seen[acks(s.acks...)]++
			seen[fetches(s.fetched, s.said)]++
			seen[keeps(s.acks, s.fetched, s.said)]++
		}
	}
	for _, a := range []answer{fine, {api.ErrOrder, 0}, {api.ErrOrder, 1}, {api.ErrNone, 1}, {api.ErrGone, 0}, {api.ErrGone, 4}} {
		want(t, "often enough", seen[a] > 50, true)
	}
}

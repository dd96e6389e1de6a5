package audit_test

import (
	"math"
	"math/rand"
	"testing"

	"postroad/api"
)

// Au1: the chapter's example, and others that one looks at.
func TestAu1Examples(t *testing.T) {
	want(t, "the chapter's", acks(ack(0, 0, 0, 2), ack(0, 1, 1, 1)), answer{api.ErrOrder, 1})
	want(t, "none", acks(), fine)
	want(t, "one", acks(ack(0, 0, 0, 2)), fine)
	want(t, "one after another", acks(ack(0, 0, 0, 2), ack(0, 1, 2, 1), ack(1, 0, 3, 256), ack(1, 1, 259, 1)), fine)
	want(t, "in any order", acks(ack(1, 1, 259, 1), ack(0, 1, 2, 1), ack(1, 0, 3, 256), ack(0, 0, 0, 2)), fine)
	want(t, "gaps", acks(ack(0, 0, 70, 2), ack(0, 1, 10, 1), ack(1, 0, 1000, 7)), fine)
}

// Au1: a good ack has a Base of 0 to MaxOffset, and a Count of 1 to MaxRecords.
func TestAu1Good(t *testing.T) {
	first := ack(7, 7, 5000, 1)
	for _, base := range []int{0, 1, api.MaxOffset - 1, api.MaxOffset} {
		for _, count := range []int{1, 2, api.MaxRecords - 1, api.MaxRecords} {
			want(t, "good", acks(first, ack(0, 0, base, count)), fine)
		}
	}
	for _, base := range []int{math.MinInt, -1, api.MaxOffset + 1, math.MaxInt} {
		want(t, "Base", acks(first, ack(0, 0, base, 1)), answer{api.ErrOrder, 1})
		want(t, "Base ahead", acks(ack(0, 0, base, 1), first), answer{api.ErrOrder, 0})
	}
	for _, count := range []int{math.MinInt, -1, 0, api.MaxRecords + 1, math.MaxInt} {
		want(t, "Count", acks(first, ack(0, 0, 0, count)), answer{api.ErrOrder, 1})
		want(t, "Count, far behind", acks(first, ack(0, 0, api.MaxOffset, count)), answer{api.ErrOrder, 1})
	}
	want(t, "numbers of an Id and steps may be any", acks(ackAt(-9, -1, math.MinInt, 0, 1), ackAt(math.MinInt, math.MaxInt, -1, 1, 1)), fine)
}

// Au1: the same Id has the same Base and Count.
func TestAu1SameId(t *testing.T) {
	a, b := ack(0, 0, 10, 3), ackAt(9, 0, 0, 10, 3)
	want(t, "the same", acks(a, b, a, b), fine)
	want(t, "another Base", acks(a, b, ack(0, 0, 11, 3)), answer{api.ErrOrder, 2})
	want(t, "a Base far away", acks(a, b, ack(0, 0, 100, 3)), answer{api.ErrOrder, 2})
	want(t, "another Count", acks(a, ack(0, 0, 10, 2)), answer{api.ErrOrder, 1})
	want(t, "another Count", acks(a, ack(0, 0, 10, 4)), answer{api.ErrOrder, 1})
	want(t, "another producer", acks(a, ack(1, 0, 10, 3)), answer{api.ErrOrder, 1})
	want(t, "another number", acks(a, ack(0, 1, 10, 3)), answer{api.ErrOrder, 1})
	want(t, "the first of several", acks(a, ack(0, 1, 13, 1), ack(0, 0, 9, 1), ack(0, 2, 11, 1), ack(0, 3, -1, 1)), answer{api.ErrOrder, 2})
}

// Au1: spans of two batches may touch, and have no offset in common, wherever they are and however long.
func TestAu1Spans(t *testing.T) {
	for _, base := range []int{0, 1, 31, 63, 64, 65, 127, 128, 255, 256, 300, 1<<32 - 1, api.MaxOffset - 300} {
		for _, count := range []int{1, 2, 63, 64, 65, 128, 129, 255, 256} {
			first := ack(0, 0, base, count)
			for _, other := range []int{1, 2, 64, 100, 256} {
				end := base + count
				want(t, "touch", acks(first, ack(0, 1, end, other)), fine)
				want(t, "overlap by one", acks(first, ack(0, 1, end-1, other)), answer{api.ErrOrder, 1})
				want(t, "the same Base", acks(first, ack(0, 1, base, other)), answer{api.ErrOrder, 1})
				if base >= other {
					want(t, "touch ahead", acks(first, ack(0, 1, base-other, other)), fine)
					want(t, "overlap ahead by one", acks(first, ack(0, 1, base-other+1, other)), answer{api.ErrOrder, 1})
				}
				if other < count {
					want(t, "within", acks(first, ack(0, 1, base+count/2, 1)), answer{api.ErrOrder, 1})
					want(t, "around", acks(ack(0, 1, base+count/2, 1), first), answer{api.ErrOrder, 1})
				}
			}
		}
	}
}

// Au1: answers that are not OK are passed over, whatever they name.
func TestAu1Errors(t *testing.T) {
	for _, e := range []api.Errno{api.ErrQueue, api.ErrLarge, api.ErrPrimary, -1, math.MaxInt} {
		a, b := ack(0, 0, 0, 9), ack(0, 1, -1, 0)
		a.Err, b.Err = e, e
		want(t, "passed over", acks(b, a, ack(0, 1, 1, 1), a, b, ack(0, 0, 2, 1)), fine)
		want(t, "counted", acks(b, a, ack(0, 1, 1, 1), b, ack(0, 0, 1, 1)), answer{api.ErrOrder, 4})
	}
}

// Au1: each ack is held against each one ahead of it.
func TestAu1All(t *testing.T) {
	r := rand.New(rand.NewSource(1))
	for range 20000 {
		var l []api.Ack
		most := 1 + r.Intn(200)
		for range r.Intn(12) {
			a := ack(r.Intn(2), r.Intn(4), r.Intn(most)-r.Intn(40)/39, 1+r.Intn(1+most/8)-r.Intn(40)/39)
			if len(l) > 0 && r.Intn(3) == 0 {
				a = l[r.Intn(len(l))]
			}
			a.Err = api.Errno(r.Intn(6) / 5 * 150)
			l = append(l, a)
		}
		want(t, "Acks", acks(l...), rightAcks(l))
		if t.Failed() {
			t.Fatal(l)
		}
	}
}

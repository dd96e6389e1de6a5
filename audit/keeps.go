package audit

import (
	"cmp"
	"math"
	"slices"

	"postroad/api"
)

// Keeps tells whether what was acked is fetched, and which fetch lacks it: each record, or one of its key behind it.
func Keeps(acks []api.Ack, l []api.Fetched, said []Said) (api.Errno, int) {
	all := newDues(lastOnes(acked(acks, said), l))
	for i, f := range l {
		if f.Err == api.OK && all.lackIn(f) {
			return api.ErrGone, i
		}
	}
	return api.OK, 0
}

// due is a record at the offset that its batch's ack names; each fetch behind the step that goes over the offset must tell it.
type due struct {
	record api.Record
	step   int
}

// acked are the records of the batches that were said and have a good ack, as far as their Count goes.
func acked(acks []api.Ack, said []Said) []due {
	var out []due
	first := firstAcks(acks)
	for _, s := range said {
		a, is := first[s.Id]
		if !is {
			continue
		}
		delete(first, s.Id) // what else is said of the Id is not looked for
		for i, r := range s.Records[:min(a.Count, len(s.Records))] {
			r.Offset = a.Base + i
			out = append(out, due{r, a.Step})
		}
	}
	return out
}

// firstAcks are the first good ones of each Id; their Step is the lowest one of all good ones.
func firstAcks(l []api.Ack) map[api.Id]api.Ack {
	first := map[api.Id]api.Ack{}
	for _, a := range l {
		if !isGood(a) {
			continue
		}
		if b, is := first[a.Id]; is {
			b.Step = min(b.Step, a.Step)
			a = b
		}
		first[a.Id] = a
	}
	return first
}

// lastOnes are those behind which no record of their key stands, each of them once, by its lowest step.
func lastOnes(l []due, fetched []api.Fetched) []due {
	last := lastOffsets(l, fetched)
	places := map[api.Record]int{}
	var out []due
	for _, d := range l {
		if last[d.record.Key] > d.record.Offset {
			continue
		}
		if place, is := places[d.record]; is {
			out[place].step = min(out[place].step, d.step)
			continue
		}
		places[d.record] = len(out)
		out = append(out, d)
	}
	return out
}

// lastOffsets are of each key the highest offset at which a record of it is fetched or acked.
func lastOffsets(l []due, fetched []api.Fetched) map[string]int {
	last := map[string]int{}
	note := func(r api.Record) {
		if offset, is := last[r.Key]; !is || offset < r.Offset {
			last[r.Key] = r.Offset
		}
	}
	for _, d := range l {
		note(d.record)
	}
	for _, f := range fetched {
		if f.Err != api.OK {
			continue
		}
		for _, r := range f.Records {
			note(r)
		}
	}
	return last
}

// dues are due records by their offsets, with a tree of their steps, so that a fetch ahead of many acks need not go over them one by one.
type dues struct {
	list   []due
	leaves int
	lowest []int // at i the lower one of those at 2i and 2i+1; from leaves on the steps
}

func newDues(l []due) *dues {
	slices.SortStableFunc(l, func(a, b due) int { return cmp.Compare(a.record.Offset, b.record.Offset) })
	leaves := 1
	for leaves < len(l) {
		leaves *= 2
	}
	d := &dues{l, leaves, make([]int, 2*leaves)}
	for i := range leaves {
		d.lowest[leaves+i] = math.MaxInt
	}
	for i, one := range l {
		d.lowest[leaves+i] = one.step
	}
	for i := leaves - 1; i > 0; i-- {
		d.lowest[i] = min(d.lowest[2*i], d.lowest[2*i+1])
	}
	return d
}

// place is that of the first one at an offset, or behind it.
func (d *dues) place(offset int) int {
	place, _ := slices.BinarySearchFunc(d.list, offset, func(one due, offset int) int { return cmp.Compare(one.record.Offset, offset) })
	return place
}

// next is the place of the first one, from a place on, whose step is lower than this one; len(d.list): there is none.
func (d *dues) next(place, step int) int {
	if place >= len(d.list) {
		return len(d.list)
	}
	at := d.leaves + place
	for d.lowest[at] >= step {
		for at%2 == 1 {
			at /= 2
		}
		if at == 0 {
			return len(d.list)
		}
		at++
	}
	for at < d.leaves {
		at *= 2
		if d.lowest[at] >= step {
			at++
		}
	}
	return at - d.leaves
}

// lackIn tells whether a fetch that goes over one of them, behind its step, does not tell it.
func (d *dues) lackIn(f api.Fetched) bool {
	if len(f.Records) == 0 {
		return false
	}
	last := f.Records[len(f.Records)-1].Offset
	place := d.next(d.place(f.From), f.Step)
	if place == len(d.list) || d.list[place].record.Offset > last {
		return false
	}
	told := map[api.Record]struct{}{}
	for _, r := range f.Records {
		told[r] = struct{}{}
	}
	for place < len(d.list) && d.list[place].record.Offset <= last {
		if _, is := told[d.list[place].record]; !is {
			return true
		}
		place = d.next(place+1, f.Step)
	}
	return false
}

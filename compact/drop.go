package compact

import (
	"iter"
	"slices"

	"postroad/api"
	"postroad/batch"
)

// recordsOf are the records of batches, below an offset. The batches are unpacked one by one: all at once may have a thousand times the bytes of the disk.
func recordsOf(batches []string, below int) iter.Seq[api.Record] {
	return func(yield func(api.Record) bool) {
		for _, s := range batches {
			b, _, _ := batch.Of(s) // a log takes no bytes that are refused here
			for _, r := range b.Records {
				if r.Offset >= below || !yield(r) {
					return
				}
			}
		}
	}
}

// lastOffsets are the offsets at which keys come last, below an offset.
func lastOffsets(batches []string, below int) map[string]int {
	last := map[string]int{}
	for r := range recordsOf(batches, below) {
		last[r.Key] = r.Offset
	}
	return last
}

// dropper drops records whose keys come again.
type dropper struct {
	last  map[string]int // at which offset each key comes last
	codec int
}

// upTo are the batches ahead of an end, one for one, without the records that are dropped, and how many those are.
func (d dropper) upTo(end int, batches []string) ([]string, int) {
	var left []string
	dropped := 0
	for _, s := range batches {
		b, _, _ := batch.Of(s)
		if b.Base >= end {
			break
		}
		s, n := d.drop(b, s)
		left = append(left, s)
		dropped += n
	}
	return left, dropped
}

// drop are the bytes of a batch, that has these, without the records that are dropped, and how many those are. Where none is, they stay as they are; so they do where what is left can't be packed as short as a batch must be.
func (d dropper) drop(b api.Batch, s string) (string, int) {
	all := len(b.Records)
	b.Records = slices.DeleteFunc(b.Records, d.comesAgain)
	n := all - len(b.Records)
	if n == 0 {
		return s, 0
	}
	if left, ok := d.packed(b); ok {
		return left, n
	}
	return s, 0
}

func (d dropper) comesAgain(r api.Record) bool { return d.last[r.Key] > r.Offset }

// packed are a batch's bytes by the codec or, where they are too long by that one, by another.
func (d dropper) packed(b api.Batch) (string, bool) {
	for _, codec := range []int{d.codec, api.CodecNone, api.CodecDeflate, api.CodecLz} {
		if s, e := batch.Bytes(b, codec); e == api.OK {
			return s, true
		}
	}
	return "", false
}

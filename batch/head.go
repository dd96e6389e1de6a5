package batch

import (
	"strings"

	"postroad/api"
	"postroad/bits"
	"postroad/record"
	"postroad/sums"
)

const (
	// So a batch begins, that readers know it by.
	beginning = "PB"

	// Behind it stand how many bytes are summed, and their sum, of so many bytes each.
	numberBytes = 4
	sumAt       = len(beginning) + numberBytes
	summedAt    = sumAt + numberBytes
)

// The fields of a head, in their order.
const (
	fieldBase = iota
	fieldCount
	fieldView
	fieldProducer
	fieldSeq
	fieldCodec
	fieldRecords
	fieldPlain
	allFields
)

// fieldBytes are how many bytes each field has; headBytes are all of them.
var fieldBytes = [allFields]int{8, 2, 4, 4, 4, 1, 2, 4}

const headBytes = 8 + 2 + 4 + 4 + 4 + 1 + 2 + 4

// head is what stands ahead of the packed bytes, below the same sum.
type head struct {
	batch   api.Batch
	codec   int
	records int // so many are packed
	plain   int // and have so many bytes
}

// bytes are those of a head whose batch may be: no number of it is too great for its field.
func (h head) bytes() string {
	fields := [allFields]int{
		fieldBase:     h.batch.Base,
		fieldCount:    h.batch.Count,
		fieldView:     h.batch.View,
		fieldProducer: h.batch.Producer,
		fieldSeq:      h.batch.Seq,
		fieldCodec:    h.codec,
		fieldRecords:  h.records,
		fieldPlain:    h.plain,
	}
	var out strings.Builder
	for i, n := range fields {
		field, _ := bits.PutFixed(n, fieldBytes[i])
		out.WriteString(field)
	}
	return out.String()
}

// number is one of those that stand ahead of what is summed.
func number(n int) string {
	s, _ := bits.PutFixed(n, numberBytes)
	return s
}

// open is the head of the batch that bytes begin with, its batch without records, and the packed bytes behind it.
func open(s string) (head, string, api.Errno) {
	summed, e := summedOf(s)
	if e != api.OK {
		return head{}, "", e
	}
	h, e := headOf(summed)
	if e != api.OK {
		return head{}, "", e
	}
	return h, summed[headBytes:], api.OK
}

// sizeOf is how many bytes a batch has, by those that are packed in it.
func sizeOf(packed string) int { return summedAt + headBytes + len(packed) }

// summedOf are the bytes whose sum stands ahead of them: those of a head at least.
func summedOf(s string) (string, api.Errno) {
	if len(s) < summedAt {
		return "", api.ErrShort
	}
	n, _ := bits.Fixed(s[len(beginning):], numberBytes)
	if !strings.HasPrefix(s, beginning) || !isWithin(n, headBytes, api.MaxBatch) {
		return "", api.ErrBatch
	}
	if len(s) < summedAt+n {
		return "", api.ErrShort
	}
	summed := s[summedAt : summedAt+n]
	if sum, _ := bits.Fixed(s[sumAt:], numberBytes); sum != sums.Crc(summed) {
		return "", api.ErrBatch
	}
	return summed, api.OK
}

// headOf reads a head. What it tells of the packed bytes is not held against them.
func headOf(summed string) (head, api.Errno) {
	var fields [allFields]int
	for i, width := range fieldBytes {
		n, e := bits.Fixed(summed, width)
		if e != api.OK { // a Base of 2^63 or more
			return head{}, api.ErrBatch
		}
		fields[i] = n
		summed = summed[width:]
	}
	h := head{
		batch: api.Batch{
			Base:     fields[fieldBase],
			Count:    fields[fieldCount],
			View:     fields[fieldView],
			Producer: fields[fieldProducer],
			Seq:      fields[fieldSeq],
		},
		codec:   fields[fieldCodec],
		records: fields[fieldRecords],
		plain:   fields[fieldPlain],
	}
	if _, ok := codecOf(h.codec); !ok || !numbersMayBe(h.batch) {
		return head{}, api.ErrBatch
	}
	return h, api.OK
}

// unpacked are the records of packed bytes, if those are just as the head tells.
func (h head) unpacked(packed string) ([]api.Record, api.Errno) {
	by, _ := codecOf(h.codec)
	plain, took, e := by.unpack(packed, h.plain) // no codec tells more than MaxPlain
	if e != api.OK || took != len(packed) || len(plain) != h.plain {
		return nil, api.ErrBatch
	}
	l, e := record.Of(plain, h.batch.Base, h.records)
	if e != api.OK {
		return nil, api.ErrBatch
	}
	return l, api.OK
}

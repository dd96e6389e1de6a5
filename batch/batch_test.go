package batch_test

import (
	"math"
	"strings"
	"testing"

	"postroad/api"
	"postroad/batch"
)

const (
	lastBase   = api.MaxOffset - api.MaxRecords
	lastNumber = 1<<31 - 1
)

var codecs = []int{api.CodecNone, api.CodecDeflate, api.CodecLz}

var (
	longKey   = strings.Repeat("k", 64)
	longValue = strings.Repeat("v", 4096)
)

// ordinary is a batch with one of each kind of records, and offsets that are left out.
func ordinary() api.Batch {
	return api.Batch{Base: 5, Count: 9, View: 2, Producer: 3, Seq: 4, Records: []api.Record{
		{Offset: 6, Key: "k", Value: "v"},
		{Offset: 7, Key: "k", Gone: true},
		{Offset: 9, Value: strings.Repeat("word ", 20)},
		{Offset: 13, Key: "other", Value: ""},
	}}
}

// full has as many records as may be.
func full() api.Batch {
	b := api.Batch{Base: lastBase, Count: 256}
	for i := range 256 {
		b.Records = append(b.Records, api.Record{Offset: lastBase + i, Key: "k", Value: "v"})
	}
	return b
}

// mayBe are batches that may be, at each edge.
func mayBe() []api.Batch {
	at := func(base, count int, l ...api.Record) api.Batch {
		return api.Batch{Base: base, Count: count, Records: l}
	}
	return []api.Batch{
		ordinary(),
		full(),
		at(0, 1),
		at(0, 256),
		at(lastBase, 1),
		at(lastBase, 256),
		{Count: 1, View: lastNumber},
		{Count: 1, Producer: lastNumber},
		{Count: 1, Seq: lastNumber},
		{Base: lastBase, Count: 256, View: lastNumber, Producer: lastNumber, Seq: lastNumber},
		at(0, 1, api.Record{}),
		at(0, 1, api.Record{Gone: true}),
		at(0, 256, api.Record{Offset: 255}),
		at(7, 3, api.Record{Offset: 7}),
		at(7, 3, api.Record{Offset: 9}),
		at(7, 3, api.Record{Offset: 7}, api.Record{Offset: 9}),
		at(lastBase, 256, api.Record{Offset: api.MaxOffset - 1}),
		at(7, 2, api.Record{Offset: 7, Key: longKey, Value: longValue}, api.Record{Offset: 8, Key: longKey, Gone: true}),
	}
}

// mayNotBe are batches that may not be, each by one thing.
func mayNotBe() []api.Batch {
	at := func(base, count int, l ...api.Record) api.Batch {
		return api.Batch{Base: base, Count: count, Records: l}
	}
	out := []api.Batch{
		{},
		at(-1, 1),
		at(math.MinInt, 1),
		at(lastBase+1, 1),
		at(lastBase+1, 255),
		at(api.MaxOffset, 1),
		at(math.MaxInt, 256),
		at(0, 0),
		at(0, -1),
		at(0, math.MinInt),
		at(0, 257),
		at(0, math.MaxInt),
		at(5, 0, api.Record{Offset: 5}),
		at(0, 257, api.Record{Offset: 256}),
		at(-1, 3, api.Record{Offset: 0}),
		at(lastBase+1, 255, api.Record{Offset: lastBase + 1}),
		at(5, 1, api.Record{Offset: 4}),
		at(5, 1, api.Record{Offset: 6}),
		at(5, 1, api.Record{Offset: 5}, api.Record{Offset: 6}),
		at(5, 3, api.Record{Offset: 4}, api.Record{Offset: 6}),
		at(5, 3, api.Record{Offset: 7}, api.Record{Offset: 8}),
		at(5, 3, api.Record{Offset: 5}, api.Record{Offset: 5}),
		at(5, 3, api.Record{Offset: 6}, api.Record{Offset: 5}),
		at(0, 1, api.Record{Offset: -1}),
		at(0, 1, api.Record{Offset: math.MinInt}),
		at(0, 256, api.Record{Offset: 256}),
		at(0, 256, api.Record{Offset: math.MaxInt}),
		at(lastBase, 256, api.Record{Offset: api.MaxOffset}),
		at(5, 1, api.Record{Offset: 5, Key: longKey + "k"}),
		at(5, 1, api.Record{Offset: 5, Value: longValue + "v"}),
		at(5, 1, api.Record{Offset: 5, Value: "v", Gone: true}),
		at(5, 2, api.Record{Offset: 5}, api.Record{Offset: 6, Value: "v", Gone: true}),
	}
	for _, n := range []int{-1, math.MinInt, lastNumber + 1, 1 << 32, math.MaxInt} {
		out = append(out, api.Batch{Count: 1, View: n}, api.Batch{Count: 1, Producer: n}, api.Batch{Count: 1, Seq: n})
	}
	crowd := full()
	crowd.Records = append(crowd.Records, api.Record{Offset: api.MaxOffset - 1})
	return append(out, crowd)
}

func TestBa1Check(t *testing.T) {
	for i, b := range mayBe() {
		if e := batch.Check(b); e != api.OK {
			t.Errorf("batch %d that may be: %d", i, e)
		}
	}
	for i, b := range mayNotBe() {
		if e := batch.Check(b); e != api.ErrBatch {
			t.Errorf("batch %d that may not be: %d", i, e)
		}
	}
	for _, size := range []int{api.MaxPlain, api.MaxPlain + 1} { // a batch may be, though it has no bytes
		if e := batch.Check(filled(size, sameLetters)); e != api.OK {
			t.Error(size, e)
		}
	}
}

// Ba1, Ba2: the chapter's example, and bytes written out.
func TestBa1Forms(t *testing.T) {
	b := api.Batch{Base: 5, Count: 1, Records: []api.Record{{Offset: 5, Key: "k", Value: "v"}}}
	s := checkBytes(t, b, api.CodecNone)
	if len(s) != 10+29+5 {
		t.Error(len(s))
	}
	summed := "\x05\x00\x00\x00\x00\x00\x00\x00" + "\x01\x00" + "\x00\x00\x00\x00" + "\x00\x00\x00\x00" + "\x00\x00\x00\x00" +
		"\x00" + "\x01\x00" + "\x05\x00\x00\x00" + "\x00\x01k\x02v"
	if s[:6] != "PB\x22\x00\x00\x00" || s[10:] != summed || s != closed(summed) {
		t.Errorf("%q", s)
	}
	b = api.Batch{Base: 0x030201fe05, Count: 0x100, View: 0x71020304, Producer: 0x72060708, Seq: 0x730a0b0c}
	s = checkBytes(t, b, api.CodecNone)
	summed = "\x05\xfe\x01\x02\x03\x00\x00\x00" + "\x00\x01" + "\x04\x03\x02\x71" + "\x08\x07\x06\x72" + "\x0c\x0b\x0a\x73" +
		"\x00" + "\x00\x00" + "\x00\x00\x00\x00"
	if s[:6] != "PB\x1d\x00\x00\x00" || s[10:] != summed {
		t.Errorf("%q", s)
	}
	// The codec's number stands in them, and what is packed behind the head.
	if s := checkBytes(t, b, api.CodecDeflate); s[10+22] != 1 || len(s) < 40 {
		t.Errorf("%q", s)
	}
	if s := checkBytes(t, b, api.CodecLz); s[10+22] != 2 || s[39:43] != "\x04\x22\x4d\x18" {
		t.Errorf("%q", s)
	}
}

func TestBa1Bytes(t *testing.T) {
	for _, b := range mayBe() {
		for _, codec := range codecs {
			checkBytes(t, b, codec)
		}
	}
}

// Ba1: packed bytes are packed: the codecs are what they are called.
func TestBa1Packed(t *testing.T) {
	b := filled(200000, sameLetters)
	for _, codec := range codecs {
		s := checkBytes(t, b, codec)
		if codec == api.CodecNone && len(s) != 10+29+200000 || codec != api.CodecNone && len(s) > 20000 {
			t.Error(codec, len(s))
		}
	}
}

func badCodecs() []int {
	return []int{-1, 3, 4, 255, 256, 257, 258, 1 << 32, math.MinInt, math.MaxInt}
}

// Ba1: of several errors the first one.
func TestBa1Refused(t *testing.T) {
	long := filled(api.MaxPlain+1, sameLetters)
	wrong := filled(api.MaxPlain+1, sameLetters)
	wrong.Seq = -1
	for _, codec := range append(badCodecs(), codecs...) {
		for _, b := range mayNotBe() {
			checkNoBytes(t, b, codec, api.ErrBatch)
		}
		checkNoBytes(t, wrong, codec, api.ErrBatch)
	}
	for _, codec := range badCodecs() {
		checkNoBytes(t, ordinary(), codec, api.ErrArg)
		checkNoBytes(t, long, codec, api.ErrArg)
	}
	for _, codec := range codecs {
		checkNoBytes(t, long, codec, api.ErrLong)
	}
}

// Ba1, Ba2: as many plain bytes as may be.
func TestBa1MaxPlain(t *testing.T) {
	b := filled(api.MaxPlain, sameLetters)
	for _, codec := range []int{api.CodecDeflate, api.CodecLz} {
		checkRight(t, checkBytes(t, b, codec), b)
	}
	checkNoBytes(t, b, api.CodecNone, api.ErrLong)
}

// Ba1, Ba2: as many bytes as a batch may have, by none of the codecs.
func TestBa1MaxBatch(t *testing.T) {
	most := api.MaxBatch - 29
	b := filled(most, sameLetters)
	s := checkBytes(t, b, api.CodecNone)
	if len(s) != 10+api.MaxBatch {
		t.Error(len(s))
	}
	checkRight(t, s, b)
	for _, more := range []int{1, 2, 1000} {
		b := filled(most+more, sameLetters)
		checkNoBytes(t, b, api.CodecNone, api.ErrLong)
		checkBytes(t, b, api.CodecDeflate)
	}
}

// Ba1: likewise where bytes that are packed do not get fewer.
func TestBa1MaxBatchPacked(t *testing.T) {
	for _, codec := range []int{api.CodecDeflate, api.CodecLz} {
		size := api.MaxBatch - 100
		for range 3 { // a head's bytes and a few more: some steps lead to the last size that fits
			packed := packedBy(t, written(filled(size, noise(1))), codec)
			size += api.MaxBatch - 29 - len(packed)
		}
		for _, more := range []int{-1, 0, 1} {
			b := filled(size+more, noise(1))
			n := 29 + len(packedBy(t, written(b), codec))
			if n != api.MaxBatch+more {
				t.Fatal(codec, more, n)
			}
			if more > 0 {
				checkNoBytes(t, b, codec, api.ErrLong)
			} else {
				checkRight(t, checkBytes(t, b, codec), b)
			}
		}
	}
}

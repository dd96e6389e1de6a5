package batch_test

import (
	"bytes"
	"compress/flate"
	"encoding/binary"
	"hash/crc32"
	"io"
	"math/rand"
	"slices"
	"strings"
	"testing"

	"postroad/api"
	"postroad/batch"
	"postroad/deflate"
	"postroad/frame"
)

// told is whatever a batch's bytes may tell below their sum.
type told struct {
	base                uint64
	count               uint16
	view, producer, seq uint32
	codec               byte
	records             uint16
	plain               uint32
	packed              string
}

// summed are the bytes of which the sum is.
func (d told) summed() string {
	out := binary.LittleEndian.AppendUint64(nil, d.base)
	out = binary.LittleEndian.AppendUint16(out, d.count)
	out = binary.LittleEndian.AppendUint32(out, d.view)
	out = binary.LittleEndian.AppendUint32(out, d.producer)
	out = binary.LittleEndian.AppendUint32(out, d.seq)
	out = append(out, d.codec)
	out = binary.LittleEndian.AppendUint16(out, d.records)
	out = binary.LittleEndian.AppendUint32(out, d.plain)
	return string(out) + d.packed
}

func (d told) bytes() string { return closed(d.summed()) }

// closed are bytes behind a beginning, their number and their sum.
func closed(summed string) string {
	out := []byte("PB")
	out = binary.LittleEndian.AppendUint32(out, uint32(len(summed)))
	out = binary.LittleEndian.AppendUint32(out, crc32.Checksum([]byte(summed), crc32.MakeTable(crc32.Castagnoli)))
	return string(out) + summed
}

// tells is what a batch's bytes are to tell, its records being packed so.
func tells(b api.Batch, codec int, packed string) told {
	return told{
		base: uint64(b.Base), count: uint16(b.Count), view: uint32(b.View), producer: uint32(b.Producer), seq: uint32(b.Seq),
		codec: byte(codec), records: uint16(len(b.Records)), plain: uint32(len(written(b))), packed: packed,
	}
}

// written are the bytes of a batch's records, by the chapter of layer 9.
func written(b api.Batch) string {
	var out []byte
	for _, r := range b.Records {
		out = binary.AppendUvarint(out, uint64(r.Offset-b.Base))
		out = binary.AppendUvarint(out, uint64(len(r.Key)))
		out = append(out, r.Key...)
		size := len(r.Value) + 1
		if r.Gone {
			size = 0
		}
		out = binary.AppendUvarint(out, uint64(size))
		out = append(out, r.Value...)
	}
	return string(out)
}

// packedBy are plain bytes by a codec.
func packedBy(t *testing.T, plain string, codec int) string {
	t.Helper()
	out, e := plain, api.OK
	switch codec {
	case api.CodecDeflate:
		out, e = deflate.Deflate(plain)
	case api.CodecLz:
		out, e = frame.Pack(plain)
	}
	if e != api.OK {
		t.Fatal(e)
	}
	return out
}

// flated are DEFLATE's bytes by another writer, at a level.
func flated(t *testing.T, plain string, level int) string {
	t.Helper()
	var out bytes.Buffer
	w, err := flate.NewWriter(&out, level)
	if err != nil {
		t.Fatal(err)
	}
	io.WriteString(w, plain)
	w.Close()
	return out.String()
}

// unflated are the plain bytes of DEFLATE by another reader, that has to take all bytes.
func unflated(t *testing.T, packed string) string {
	t.Helper()
	in := strings.NewReader(packed)
	plain, err := io.ReadAll(flate.NewReader(in))
	if err != nil || in.Len() != 0 {
		t.Fatal(err, in.Len())
	}
	return string(plain)
}

// alike tells whether two batches are the same.
func alike(a, b api.Batch) bool {
	return a.Base == b.Base && a.Count == b.Count && a.View == b.View && a.Producer == b.Producer && a.Seq == b.Seq && slices.Equal(a.Records, b.Records)
}

// bare is a batch without its records.
func bare(b api.Batch) api.Batch {
	b.Records = nil
	return b
}

func checkOf(t *testing.T, s string, want api.Batch, size int, errno api.Errno) {
	t.Helper()
	got, n, e := batch.Of(s)
	if !alike(got, want) || n != size || e != errno {
		t.Errorf("Of %d bytes: %+v, %d records, %d, %d, want %+v, %d records, %d, %d",
			len(s), bare(got), len(got.Records), n, e, bare(want), len(want.Records), size, errno)
	}
}

func checkHead(t *testing.T, s string, want api.Batch, size int, errno api.Errno) {
	t.Helper()
	got, n, e := batch.Head(s)
	if !alike(got, bare(want)) || n != size || e != errno {
		t.Errorf("Head of %d bytes: %+v, %d, %d, want %+v, %d, %d", len(s), got, n, e, bare(want), size, errno)
	}
}

// checkRight holds bytes to be those of a batch, wholly.
func checkRight(t *testing.T, s string, want api.Batch) {
	t.Helper()
	checkOf(t, s, want, len(s), api.OK)
	checkHead(t, s, want, len(s), api.OK)
}

// checkHeadOnly holds bytes to be those of a batch as far as Head looks, and no further.
func checkHeadOnly(t *testing.T, s string, want api.Batch) {
	t.Helper()
	checkOf(t, s, api.Batch{}, 0, api.ErrBatch)
	checkHead(t, s, want, len(s), api.OK)
}

// checkRefused holds bytes to be refused by both.
func checkRefused(t *testing.T, s string, errno api.Errno) {
	t.Helper()
	checkOf(t, s, api.Batch{}, 0, errno)
	checkHead(t, s, api.Batch{}, 0, errno)
}

// checkBytes holds a batch to have bytes by a codec, of the form that the chapter tells, and gives them.
func checkBytes(t *testing.T, b api.Batch, codec int) string {
	t.Helper()
	s, e := batch.Bytes(b, codec)
	if e != api.OK {
		t.Fatalf("Bytes of %+v, %d records, %d: %d", bare(b), len(b.Records), codec, e)
	}
	const ahead = 39
	if len(s) < ahead || s != tells(b, codec, s[ahead:]).bytes() {
		t.Fatalf("Bytes of %+v, %d records, %d: %q", bare(b), len(b.Records), codec, s[:min(len(s), 60)])
	}
	plain, packed := "", s[ahead:]
	switch codec {
	case api.CodecNone:
		plain = packed
	case api.CodecDeflate:
		plain = unflated(t, packed)
	case api.CodecLz:
		var n int
		plain, n, e = frame.Unpack(packed, api.MaxPlain)
		if n != len(packed) || e != api.OK {
			t.Fatal(n, e)
		}
	}
	if plain != written(b) {
		t.Fatalf("%d records, %d: other plain bytes", len(b.Records), codec)
	}
	return s
}

func checkNoBytes(t *testing.T, b api.Batch, codec int, errno api.Errno) {
	t.Helper()
	s, e := batch.Bytes(b, codec)
	if s != "" || e != errno {
		t.Errorf("Bytes of %+v, %d records, %d: %d bytes, %d, want %d", bare(b), len(b.Records), codec, len(s), e, errno)
	}
}

// filled is a batch of 256 records whose bytes, by layer 9, are so many in all: 50000 at least.
func filled(size int, text func(n int) string) api.Batch {
	const numbers = 1 + 64 + 2 // of a key's length, the key, a value's length
	b := api.Batch{Base: 9, Count: 256}
	for i := range 256 {
		room := size/256 - numbers - 1
		if i >= 128 {
			room--
		}
		if i == 255 {
			room += size % 256
		}
		b.Records = append(b.Records, api.Record{Offset: 9 + i, Key: text(64), Value: text(room)})
	}
	if len(written(b)) != size {
		panic("the batch has not the size that was asked for")
	}
	return b
}

func sameLetters(n int) string { return strings.Repeat("x", n) }

// noise gives texts that do not pack.
func noise(seed int64) func(n int) string {
	r := rand.New(rand.NewSource(seed))
	return func(n int) string {
		out := make([]byte, n)
		r.Read(out)
		return string(out)
	}
}

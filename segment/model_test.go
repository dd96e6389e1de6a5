package segment_test

import (
	"encoding/binary"
	"hash/crc32"
	"math/rand"
	"strings"
	"testing"

	"postroad/api"
	"postroad/batch"
	"postroad/segment"
	"postroad/vdisk"
)

// lastBase is the last one that a batch and a segment may have.
const lastBase = api.MaxOffset - api.MaxRecords

// kept is a batch of the model.
type kept struct {
	base, count int
	bytes       string
}

// model is the chapter's words: batches in a list, the first so many of them synced.
type model struct {
	base    int
	batches []kept
	synced  int
}

func (m *model) end() int {
	if len(m.batches) == 0 {
		return m.base
	}
	last := m.batches[len(m.batches)-1]
	return last.base + last.count
}

func (m *model) all() string {
	var out strings.Builder
	for _, k := range m.batches {
		out.WriteString(k.bytes)
	}
	return out.String()
}

// syncedBytes are how many bytes are synced.
func (m *model) syncedBytes() int {
	return len((&model{batches: m.batches[:m.synced]}).all())
}

func (m *model) append(k kept) { m.batches = append(m.batches, k) }

func (m *model) sync() { m.synced = len(m.batches) }

func (m *model) cut(offset int) api.Errno {
	for i, k := range m.batches {
		if k.base == offset {
			m.batches = m.batches[:i:i]
			m.sync()
			return api.OK
		}
	}
	if offset != m.end() {
		return api.ErrNone
	}
	m.sync()
	return api.OK
}

func (m *model) batch(offset int) (string, api.Errno) {
	for _, k := range m.batches {
		if k.base <= offset && offset < k.base+k.count {
			return k.bytes, api.OK
		}
	}
	return "", api.ErrNone
}

// crash lets so many bytes survive besides the synced ones, and tells how many of them are of no whole batch.
func (m *model) crash(keep int) int {
	left := min(m.syncedBytes()+keep, len(m.all()))
	var whole []kept
	for _, k := range m.batches {
		if len(k.bytes) > left {
			break
		}
		left -= len(k.bytes)
		whole = append(whole, k)
	}
	m.batches = whole
	m.sync()
	return left
}

// plain is a batch with a record at its base, that has a value.
func plain(base, count int, value string) api.Batch {
	return api.Batch{Base: base, Count: count, Seq: base & 0xffff, Records: []api.Record{{Offset: base, Key: "k", Value: value}}}
}

// packed are the bytes of a batch.
func packed(t testing.TB, b api.Batch, codec int) kept {
	t.Helper()
	s, e := batch.Bytes(b, codec)
	if e != api.OK {
		t.Fatal(b.Base, b.Count, e)
	}
	return kept{b.Base, b.Count, s}
}

// bare are the bytes of a batch without records.
func bare(t testing.TB, base, count int) kept {
	t.Helper()
	return packed(t, api.Batch{Base: base, Count: count}, api.CodecNone)
}

// row are batches that take so many offsets, one behind the other.
func row(t testing.TB, base int, counts ...int) []kept {
	t.Helper()
	var out []kept
	for i, n := range counts {
		out = append(out, packed(t, plain(base, n, strings.Repeat("v", i)), i%3))
		base += n
	}
	return out
}

// someKept is a batch at a base.
func someKept(t testing.TB, r *rand.Rand, base int) kept {
	t.Helper()
	b := api.Batch{Base: base, Count: 1 + r.Intn([]int{1, 3, 256}[r.Intn(3)]), View: r.Intn(9), Producer: r.Intn(9), Seq: r.Intn(99)}
	for i := range b.Count {
		if r.Intn(3) == 0 && len(b.Records) < 5 {
			b.Records = append(b.Records, api.Record{Offset: base + i, Key: "key", Value: noise(r, r.Intn([]int{10, 10, 900}[r.Intn(3)]))})
		}
	}
	return packed(t, b, r.Intn(3))
}

// noise are bytes that cannot be packed.
func noise(r *rand.Rand, n int) string {
	out := make([]byte, n)
	r.Read(out)
	return string(out)
}

// large is a batch of about so many bytes.
func large(t testing.TB, r *rand.Rand, base, size int) kept {
	t.Helper()
	b := api.Batch{Base: base, Count: api.MaxRecords}
	for i := 0; size > 0; i++ {
		n := min(size, api.MaxValue)
		b.Records = append(b.Records, api.Record{Offset: base + i, Value: noise(r, n)})
		size -= n
	}
	return packed(t, b, api.CodecNone)
}

// falseRecords are bytes whose sum is right, with a head that may be, but that tell a record and have none.
func falseRecords(base, count int) string {
	summed := binary.LittleEndian.AppendUint64(nil, uint64(base))
	summed = binary.LittleEndian.AppendUint16(summed, uint16(count))
	summed = append(summed, make([]byte, 4+4+4+1)...)
	summed = append(summed, 1, 0, 0, 0, 0, 0)
	out := []byte("PB")
	out = binary.LittleEndian.AppendUint32(out, uint32(len(summed)))
	out = binary.LittleEndian.AppendUint32(out, crc32.Checksum(summed, crc32.MakeTable(crc32.Castagnoli)))
	return string(append(out, summed...))
}

func newDisk(t testing.TB, room int) *vdisk.Disk {
	t.Helper()
	d, e := vdisk.New(room)
	if e != api.OK {
		t.Fatal(e)
	}
	return d
}

// fileOf is a disk with room, and a file of these bytes, of which so many are synced.
func fileOf(t testing.TB, name, s string, synced int) *vdisk.Disk {
	t.Helper()
	d := newDisk(t, api.MaxDisk)
	for _, e := range []api.Errno{d.Append(name, s[:synced]), d.Sync(name), d.Append(name, s[synced:])} {
		if e != api.OK {
			t.Fatal(e)
		}
	}
	return d
}

// opened is the segment of a file, of which so many bytes are cut off.
func opened(t testing.TB, d *vdisk.Disk, name string, base, off int) *segment.Segment {
	t.Helper()
	s, n, e := segment.Open(d, name, base)
	if s == nil || n != off || e != api.OK {
		t.Fatalf("Open: %t, %d, %d, want %d", s != nil, n, e, off)
	}
	return s
}

// filled is a segment to which batches were appended.
func filled(t testing.TB, d *vdisk.Disk, name string, base int, l []kept) (*segment.Segment, *model) {
	t.Helper()
	s := opened(t, d, name, base, 0)
	m := &model{base: base}
	for _, k := range l {
		want(t, "Append", s.Append(k.bytes), api.OK)
		m.append(k)
	}
	return s, m
}

func want(t testing.TB, what string, got, e api.Errno) {
	t.Helper()
	if got != e {
		t.Fatalf("%s: %d, want %d", what, got, e)
	}
}

// checkNumbers holds what a segment tells of itself against the model.
func checkNumbers(t testing.TB, s *segment.Segment, m *model) {
	t.Helper()
	if s.Base() != m.base || s.End() != m.end() || s.Size() != len(m.all()) || s.Len() != len(m.batches) {
		t.Fatalf("Base %d, End %d, Size %d, Len %d, want %d, %d, %d, %d",
			s.Base(), s.End(), s.Size(), s.Len(), m.base, m.end(), len(m.all()), len(m.batches))
	}
}

func checkBatch(t testing.TB, s *segment.Segment, m *model, offset int) {
	t.Helper()
	b, e := m.batch(offset)
	if got, f := s.Batch(offset); got != b || f != e {
		t.Fatalf("Batch(%d): %d bytes, %d, want %d, %d", offset, len(got), f, len(b), e)
	}
}

// checkSame holds all that a segment tells against the model, and the bytes of its file, too.
func checkSame(t testing.TB, s *segment.Segment, m *model, d *vdisk.Disk, name string) {
	t.Helper()
	checkNumbers(t, s, m)
	for _, offset := range []int{m.base - 1, m.end(), m.end() + 1} {
		checkBatch(t, s, m, offset)
	}
	for _, k := range m.batches {
		for _, offset := range []int{k.base, k.base + k.count/2, k.base + k.count - 1} {
			checkBatch(t, s, m, offset)
		}
	}
	checkFile(t, m, d, name)
}

// checkFile holds the bytes of a file, and what of them is synced, against the model.
func checkFile(t testing.TB, m *model, d *vdisk.Disk, name string) {
	t.Helper()
	size := d.Size(name)
	if size < 0 { // no file is as good as one without bytes
		if len(m.batches) != 0 {
			t.Fatal("there is no file")
		}
		return
	}
	if s, e := d.Read(name, 0, size); s != m.all() || e != api.OK || d.Synced(name) != m.syncedBytes() {
		t.Fatalf("the file has %d bytes, %d synced, %d, want %d, %d", size, d.Synced(name), e, len(m.all()), m.syncedBytes())
	}
}

package segment_test

import (
	"math"
	"math/rand"
	"runtime"
	"strings"
	"testing"
	"unsafe"

	"postroad/api"
	"postroad/segment"
	"postroad/vdisk"
)

// checkNotGiven holds a segment that Open did not give to what the chapter says of such a one.
func checkNotGiven(t *testing.T, s *segment.Segment) {
	t.Helper()
	for range 2 {
		for _, b := range []string{"", "no batch", bare(t, 0, 1).bytes, bare(t, 3, 1).bytes} {
			want(t, "Append", s.Append(b), api.ErrArg)
		}
		want(t, "Sync", s.Sync(), api.ErrArg)
		for _, offset := range []int{math.MinInt, -1, 0, 1, 3, 4, math.MaxInt} {
			want(t, "Cut", s.Cut(offset), api.ErrArg)
			if b, e := s.Batch(offset); b != "" || e != api.ErrArg {
				t.Errorf("Batch: %q, %d", b, e)
			}
		}
		if s.Base() != 0 || s.End() != 0 || s.Size() != 0 || s.Len() != 0 {
			t.Error(s.Base(), s.End(), s.Size(), s.Len())
		}
	}
}

// R1, Sg2: segments that Open did not give.
func TestR1NotGiven(t *testing.T) {
	checkNotGiven(t, nil)
	checkNotGiven(t, &segment.Segment{})
	checkNotGiven(t, new(segment.Segment))
	d := newDisk(t, 1000)
	s, m := filled(t, d, "seg", 1, row(t, 1, 2, 1))
	byValue := *s
	checkNotGiven(t, &byValue)
	checkSame(t, s, m, d, "seg")
}

// R1: each call ends at all arguments.
func TestR1Ends(t *testing.T) {
	numbers := []int{math.MinInt, math.MinInt + 1, -1, 0, 1, 2, 3, lastBase, lastBase + 1, api.MaxOffset, math.MaxInt - 1, math.MaxInt}
	for _, name := range []string{"seg", "", "\xff", strings.Repeat("x", 1<<16)} {
		for _, base := range numbers {
			s, _, _ := segment.Open(newDisk(t, 1000), name, base)
			for _, b := range append(row(t, 0, 1, 2, 1), row(t, lastBase, 200)...) {
				s.Append(b.bytes)
			}
			for _, offset := range numbers {
				s.Batch(offset)
				s.Cut(offset)
				s.Sync()
			}
		}
	}
	segment.Open(nil, "seg", 0)
}

// changes are what others may do to the file of a segment.
func changes(t *testing.T, d *vdisk.Disk, l []kept) []func() {
	all := (&model{batches: l}).all()
	replaced := func(by string) func() {
		return func() {
			d.Cut("seg", 0)
			d.Append("seg", by)
		}
	}
	return []func(){
		func() { d.Remove("seg") },
		func() { d.Rename("seg", "other") },
		func() { d.Cut("seg", 0) },
		func() { d.Cut("seg", len(all)/2) },
		func() { d.Crash([]int{len(all) / 3}) },
		func() { d.Append("seg", "more") },
		replaced(noise(rand.New(rand.NewSource(3)), len(all))),
		replaced(all[len(l[0].bytes):] + l[0].bytes),
		func() {
			again := opened(t, d, "seg", 0, 0)
			again.Cut(l[30].base)
			again.Append(bare(t, again.End(), 3).bytes)
		},
	}
}

// R1: nothing fails where another than the segment changes its file: what is not as it was left is not told as a batch.
func TestR1ChangedByOthers(t *testing.T) {
	l := many(t, 0, 60)
	for change := range changes(t, nil, l) {
		d := newDisk(t, api.MaxDisk)
		s, m := filled(t, d, "seg", 0, l)
		changes(t, d, l)[change]()
		for offset := -1; offset < m.end()+2; offset++ {
			b, e := s.Batch(offset)
			was, _ := m.batch(offset)
			if b != "" && b != was || (b == "") != (e == api.ErrNone) {
				t.Fatal(change, offset, len(b), e)
			}
		}
		s.Append(bare(t, m.end(), 3).bytes)
		s.Batch(m.end())
		s.Sync()
		for _, i := range []int{50, 40, 20, 0} {
			s.Cut(l[i].base)
			s.Batch(l[i].base - 1)
		}
		s.Cut(s.End())
		s.Append(bare(t, s.End(), 1).bytes)
		if again, off, e := segment.Open(d, "seg", 0); again == nil || off < 0 || e != api.OK {
			t.Fatal(change, off, e)
		}
	}
}

// R2: what is refused has changed nothing, and answers nothing beside the error.
func TestR2Refused(t *testing.T) {
	d := newDisk(t, 200)
	s, m := filled(t, d, "seg", 3, row(t, 3, 2, 3))
	for range 2 {
		want(t, "Append", s.Append("no batch"), api.ErrBatch)
		want(t, "Append", s.Append(bare(t, 3, 2).bytes), api.ErrOrder)
		want(t, "Append", s.Append(packed(t, plain(8, 1, strings.Repeat("0123456789", 20)), api.CodecNone).bytes), api.ErrDisk)
		want(t, "Cut", s.Cut(4), api.ErrNone)
		if b, e := s.Batch(8); b != "" || e != api.ErrNone {
			t.Errorf("%q, %d", b, e)
		}
		if no, n, e := segment.Open(d, "seg", -1); no != nil || n != 0 || e != api.ErrArg {
			t.Error(no, n, e)
		}
		checkSame(t, s, m, d, "seg")
	}
}

// overwritten is a text and what changes its bytes afterwards.
func overwritten(s string) (string, func()) {
	room := []byte(s)
	return unsafe.String(unsafe.SliceData(room), len(room)), func() {
		for i := range room {
			room[i] = '?'
		}
	}
}

// R3: nothing that was handed in is kept: neither the name nor the bytes.
func TestR3NotKept(t *testing.T) {
	d := newDisk(t, 1000)
	name, spoilName := overwritten("segment")
	s, _, e := segment.Open(d, name, 0)
	want(t, "Open", e, api.OK)
	spoilName()
	m := &model{}
	for _, k := range row(t, 0, 1, 2, 3) {
		b, spoil := overwritten(k.bytes)
		want(t, "Append", s.Append(b), api.OK)
		spoil()
		m.append(k)
		checkSame(t, s, m, d, "segment")
	}
	want(t, "Sync", s.Sync(), api.OK)
	m.sync()
	want(t, "Cut", s.Cut(3), m.cut(3))
	checkSame(t, s, m, d, "segment")
	if len(d.Names()) != 1 {
		t.Error(d.Names())
	}
}

// shares tells whether two texts lie in the same memory.
func shares(a, b string) bool {
	at := func(s string) uintptr { return uintptr(unsafe.Pointer(unsafe.StringData(s))) }
	return at(a) < at(b)+uintptr(len(b)) && at(b) < at(a)+uintptr(len(a))
}

// R3: each answer is new memory.
func TestR3NewMemory(t *testing.T) {
	d := newDisk(t, 1000)
	l := row(t, 0, 1, 2, 3)
	s, m := filled(t, d, "seg", 0, l)
	var answers []string
	for _, offset := range []int{0, 1, 2, 3, 4, 5, 0} {
		b, e := s.Batch(offset)
		want(t, "Batch", e, api.OK)
		for _, other := range answers {
			if shares(b, other) {
				t.Fatal("two answers share memory")
			}
		}
		for _, k := range l {
			if shares(b, k.bytes) {
				t.Fatal("an answer shares memory with an argument")
			}
		}
		answers = append(answers, b)
	}
	for _, b := range answers {
		for i := range b {
			*(*byte)(unsafe.Add(unsafe.Pointer(unsafe.StringData(b)), i)) = '?'
		}
	}
	checkSame(t, s, m, d, "seg")
}

// An answer holds its own bytes alone, not those that stand beside it in the file.
func TestAnswersAreSmall(t *testing.T) {
	r := rand.New(rand.NewSource(8))
	d := newDisk(t, api.MaxDisk)
	s, _ := filled(t, d, "seg", 0, []kept{bare(t, 0, 1), large(t, r, 1, 250000)})
	var held []string
	for range 1000 {
		b, _ := s.Batch(0)
		held = append(held, b)
	}
	runtime.GC()
	var now runtime.MemStats
	runtime.ReadMemStats(&now)
	if now.HeapAlloc > 1<<26 {
		t.Errorf("%d bytes are held for %d answers", now.HeapAlloc, len(held))
	}
	runtime.KeepAlive(held)
	runtime.KeepAlive(s)
}

// A batch is found by reading the few bytes around it, not the file.
func TestLittleIsRead(t *testing.T) {
	d := newDisk(t, api.MaxDisk)
	s, m := filled(t, d, "seg", 0, many(t, 0, 5000))
	if s.Size() < 1<<20 {
		t.Fatal(s.Size())
	}
	for _, of := range []*segment.Segment{s, opened(t, d, "seg", 0, 0)} {
		var ahead, behind runtime.MemStats
		runtime.ReadMemStats(&ahead)
		for i := range 500 {
			if _, e := of.Batch(i * (m.end() / 500)); e != api.OK {
				t.Fatal(e)
			}
		}
		runtime.ReadMemStats(&behind)
		if n := behind.TotalAlloc - ahead.TotalAlloc; n > 500<<15 {
			t.Errorf("%d bytes for 500 batches", n)
		}
	}
}

// R4: the same calls are answered alike, also on a copy of the disk.
func TestR4Same(t *testing.T) {
	l := many(t, 0, 100)
	d := newDisk(t, api.MaxDisk)
	one, m := filled(t, d, "seg", 0, l)
	e := newDisk(t, api.MaxDisk)
	two, _ := filled(t, e, "other", 0, l)
	c := d.Copy()
	three := opened(t, c, "seg", 0, 0)
	checkSame(t, one, m, d, "seg")
	checkSame(t, two, m, e, "other")
	checkSame(t, three, m, c, "seg")
	want(t, "Cut", one.Cut(l[50].base), api.OK)
	checkSame(t, two, m, e, "other")
	checkSame(t, three, m, c, "seg")
}

// FuzzOpen: whatever a file has, what was taken and what was cut off are all of it, and the batches follow one another.
func FuzzOpen(f *testing.F) {
	l := row(f, 2, 3, 1, 2)
	f.Add((&model{batches: l}).all(), 2)
	f.Add(l[0].bytes+"x", 2)
	f.Fuzz(func(t *testing.T, all string, base int) {
		d := fileOf(t, "seg", all[:min(len(all), api.MaxDisk)], 0)
		s, off, e := segment.Open(d, "seg", base)
		if e != api.OK {
			return
		}
		if s.Size() != d.Size("seg") || s.Size()+off != len(all) || s.Base() != base {
			t.Fatal(s.Size(), off, d.Size("seg"), len(all))
		}
		var out strings.Builder
		for offset := base; offset < s.End(); {
			b, e := s.Batch(offset)
			want(t, "Batch", e, api.OK)
			out.WriteString(b)
			offset++
			for again, _ := s.Batch(offset); again == b; again, _ = s.Batch(offset) {
				offset++
			}
		}
		if out.String() != all[:s.Size()] {
			t.Fatal("other batches")
		}
	})
}

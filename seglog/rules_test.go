package seglog_test

import (
	"math"
	"math/rand"
	"runtime"
	"slices"
	"testing"
	"unsafe"

	"postroad/api"
	"postroad/batch"
	"postroad/seglog"
	"postroad/vdisk"
)

// checkNotGiven holds a log that Open did not give to what the chapter says of such a one.
func checkNotGiven(t *testing.T, l *seglog.Log) {
	t.Helper()
	for range 2 {
		for _, b := range []string{"", "no batch", bare(t, 0, 1).bytes, bare(t, 3, 1).bytes} {
			want(t, "Append", l.Append(b), api.ErrArg)
			want(t, "Swap", l.Swap(0, []string{b}), api.ErrArg)
		}
		want(t, "Sync", l.Sync(), api.ErrArg)
		for _, offset := range []int{math.MinInt, -1, 0, 1, 3, 4, math.MaxInt} {
			want(t, "Cut", l.Cut(offset), api.ErrArg)
			want(t, "Swap", l.Swap(offset, nil), api.ErrArg)
			if b, e := l.Batch(offset); b != "" || e != api.ErrArg {
				t.Errorf("Batch: %q, %d", b, e)
			}
			if b, e := l.Batches(offset); len(b) != 0 || e != api.ErrArg {
				t.Errorf("Batches: %q, %d", b, e)
			}
			if b, e := l.Read(offset, 9, 9); len(b) != 0 || e != api.ErrArg {
				t.Errorf("Read: %v, %d", b, e)
			}
		}
		if l.End() != 0 || len(l.Segments()) != 0 {
			t.Error(l.End(), l.Segments())
		}
	}
}

// R1: logs that Open did not give.
func TestR1NotGiven(t *testing.T) {
	checkNotGiven(t, nil)
	checkNotGiven(t, &seglog.Log{})
	checkNotGiven(t, new(seglog.Log))
	d := newDisk(t, 1000)
	l, m := filled(t, d, 60, row(t, 0, 2, 1, 3))
	byValue := *l
	checkNotGiven(t, &byValue)
	checkSame(t, l, m)
}

// R1: each call ends at all arguments.
func TestR1Ends(t *testing.T) {
	numbers := []int{math.MinInt, math.MinInt + 1, -1, 0, 1, 2, 3, api.MaxOffset - api.MaxRecords, api.MaxOffset, math.MaxInt - 1, math.MaxInt}
	for _, limit := range numbers {
		l, _ := seglog.Open(newDisk(t, 1000), limit)
		for _, k := range append(row(t, 0, 1, 2, 1), row(t, api.MaxOffset-api.MaxRecords, 200)...) {
			l.Append(k.bytes)
		}
		for _, offset := range numbers {
			for _, below := range numbers {
				for _, most := range numbers {
					l.Read(offset, below, most)
				}
			}
			l.Batch(offset)
			l.Batches(offset)
			l.Swap(offset, nil)
			l.Swap(offset, []string{"", "x"})
		}
		for _, offset := range numbers {
			l.Cut(offset)
			l.Sync()
		}
	}
	seglog.Open(nil, 1)
}

// firstFile is the name of the first of the log's files.
func firstFile(d *vdisk.Disk) string { return d.Names()[0] }

// changes are what others may do to the files of a log.
func changes(t *testing.T, d *vdisk.Disk) []func() {
	first := func() (string, string) {
		name := firstFile(d)
		s, _ := d.Read(name, 0, d.Size(name))
		return name, s
	}
	replaced := func(by func(s string) string) func() {
		return func() {
			name, s := first()
			d.Cut(name, 0)
			d.Append(name, by(s))
		}
	}
	return []func(){
		func() { d.Remove(firstFile(d)) },
		func() { d.Cut(firstFile(d), 0) },
		func() { d.Cut(firstFile(d), 50) },
		func() { d.Append(firstFile(d), "more") },
		func() { d.Rename(firstFile(d), "other") },
		func() { d.Crash(nil) },
		func() {
			for _, name := range d.Names() {
				d.Remove(name)
			}
		},
		replaced(func(s string) string { return s[1:] + s[:1] }),
		replaced(func(s string) string { return bare(t, 7, 1).bytes + s }),
		replaced(func(s string) string { return bare(t, 0, 200).bytes + s }),
		replaced(func(s string) string { return bare(t, 0, 2).bytes + bare(t, 9, 1).bytes + s }),
		func() {
			again := opened(t, d, 1)
			again.Cut(4)
			for range 5 {
				again.Append(bare(t, again.End(), 3).bytes)
			}
		},
	}
}

// checkRise holds the batches from an offset on, if there are any, to beginning there, and to bases that rise.
func checkRise(t *testing.T, l *seglog.Log, offset int) {
	t.Helper()
	all, _ := l.Batches(offset)
	for i, s := range all {
		b, _, e := batch.Head(s)
		if e != api.OK || i == 0 && b.Base != offset || b.Base < offset {
			t.Fatal(i, b.Base, offset, e)
		}
		offset = b.Base + 1
	}
}

// R1: nothing fails, and each call ends, where another than the log changes its files; what is not as it was left is not told as a batch.
func TestR1ChangedByOthers(t *testing.T) {
	for change := range changes(t, nil) {
		for _, limit := range []int{1, 100, 1000} {
			d := newDisk(t, 5000)
			l, m := filled(t, d, limit, row(t, 0, 2, 1, 1, 3, 1, 1, 1, 2))
			changes(t, d)[change]()
			for offset := -1; offset < m.end()+2; offset++ {
				b, e := l.Batch(offset)
				if was, _ := m.batch(offset); b != "" && b != was && change < 7 || (b == "") != (e == api.ErrNone) {
					t.Fatal(change, offset, len(b), e)
				}
				checkRise(t, l, offset)
				l.Read(max(offset, 0), math.MaxInt, math.MaxInt)
			}
			l.Append(bare(t, m.end(), 3).bytes)
			l.Append(bare(t, l.End(), 3).bytes)
			l.Sync()
			of := m.runs[0]
			l.Swap(0, texts(of.batches))
			for _, k := range []int{6, 4, 2, 0} {
				l.Cut(m.all()[k].base)
				l.Read(0, math.MaxInt, math.MaxInt)
			}
			l.Cut(l.End())
			l.Append(bare(t, l.End(), 1).bytes)
			again := opened(t, d, limit)
			if _, e := again.Batches(0); e != api.OK {
				t.Fatal(change, e)
			}
		}
	}
}

// Files that begin as the log's do, and are none of its segments, do not lead it astray: what a swap left that did not come to its end, and names that tell no base.
func TestR1NoSegments(t *testing.T) {
	d := newDisk(t, 5000)
	_, m := filled(t, d, 60, row(t, 0, 2, 1, 3, 1))
	for _, name := range []string{"seg", "segaside", "seg-", "seg7", "seg+000000000003", "seg-000000000003", "seg00000000000007", "seg000000000000x", "seg9999999999999", "manifest", "manifest7"} {
		want(t, "Append", d.Append(name, bare(t, 7, 1).bytes), api.OK)
	}
	if m.end() != 7 || m.runs[1].base != 3 {
		t.Fatal(m.end(), m.segments())
	}
	l := openedAgain(t, d, 60, m)
	checkSame(t, l, m)
	of := m.runs[0]
	swapped := row(t, 0, 1, of.end()-1)
	want(t, "Swap", l.Swap(0, texts(swapped)), api.OK)
	m.swap(0, swapped)
	for _, k := range row(t, 7, 1, 1, 1) {
		want(t, "Append", l.Append(k.bytes), api.OK)
		m.append(k)
	}
	checkSame(t, l, m)
	checkSame(t, openedAgain(t, d, 60, m), m)
}

// R2: what is refused has changed nothing, and answers nothing beside the error.
func TestR2Refused(t *testing.T) {
	d := newDisk(t, 300)
	l, m := filled(t, d, 60, row(t, 0, 2, 3, 1, 1))
	was := d.Copy()
	large := packed(t, plain(7, 1, noise(rand.New(rand.NewSource(4)), 300)), api.CodecNone)
	for range 2 {
		want(t, "Append", l.Append("no batch"), api.ErrBatch)
		want(t, "Append", l.Append(bare(t, 3, 2).bytes+"x"), api.ErrBatch)
		want(t, "Append", l.Append(bare(t, 3, 2).bytes), api.ErrOrder)
		want(t, "Cut", l.Cut(4), api.ErrNone)
		want(t, "Swap", l.Swap(1, []string{"no batch"}), api.ErrNone)
		want(t, "Swap", l.Swap(0, []string{"no batch"}), api.ErrBatch)
		if b, e := l.Batch(7); b != "" || e != api.ErrNone {
			t.Errorf("%q, %d", b, e)
		}
		if b, e := l.Batches(4); len(b) != 0 || e != api.ErrNone {
			t.Errorf("%q, %d", b, e)
		}
		if b, e := l.Read(0, 9, -1); len(b) != 0 || e != api.ErrArg {
			t.Errorf("%v, %d", b, e)
		}
		if no, e := seglog.Open(d, 0); no != nil || e != api.ErrArg {
			t.Error(no, e)
		}
		checkUntouched(t, d, was)
		want(t, "Append", l.Append(large.bytes), api.ErrDisk)
		checkSame(t, l, m)
	}
}

// overwritten is a text and what changes its bytes afterwards.
func overwritten(s string) (string, func()) {
	room := []byte(s)
	return unsafe.String(unsafe.SliceData(room), len(room)), func() {
		for i := range room {
			room[i] = '?'
		}
	}
}

// R3: nothing that was handed in is kept, or changed.
func TestR3NotKept(t *testing.T) {
	d := newDisk(t, 1000)
	l, m := filled(t, d, 60, nil)
	for _, k := range row(t, 0, 1, 2, 3, 1, 1) {
		b, spoil := overwritten(k.bytes)
		want(t, "Append", l.Append(b), api.OK)
		if b != k.bytes {
			t.Fatal("an argument was changed")
		}
		spoil()
		m.append(k)
		checkSame(t, l, m)
	}
	of := m.runs[0]
	for _, swapped := range [][]kept{{bare(t, 0, of.end())}, row(t, 0, 1, of.end()-1)} {
		var batches []string
		var spoils []func()
		for _, k := range swapped {
			b, spoil := overwritten(k.bytes)
			batches, spoils = append(batches, b), append(spoils, spoil)
		}
		room := append(slices.Clone(batches), "behind the list's end")
		want(t, "Swap", l.Swap(0, room[:len(batches)]), api.OK)
		if !slices.Equal(room, append(slices.Clone(texts(swapped)), "behind the list's end")) {
			t.Fatal("an argument was changed")
		}
		for i, spoil := range spoils {
			spoil()
			room[i] = "another one"
		}
		m.swap(0, swapped)
		checkSame(t, l, m)
	}
	openedAgain(t, d, 60, m)
}

// shares tells whether two texts lie in the same memory.
func shares(a, b string) bool {
	at := func(s string) uintptr { return uintptr(unsafe.Pointer(unsafe.StringData(s))) }
	return at(a) < at(b)+uintptr(len(b)) && at(b) < at(a)+uintptr(len(a))
}

// spoil changes all bytes of a text.
func spoil(s string) {
	for i := range s {
		*(*byte)(unsafe.Add(unsafe.Pointer(unsafe.StringData(s)), i)) = '?'
	}
}

// R3: each answer is new memory.
func TestR3NewMemory(t *testing.T) {
	d := newDisk(t, 1000)
	given := row(t, 0, 1, 2, 3, 1, 1)
	l, m := filled(t, d, 100, given)
	var answers []string
	for _, offset := range []int{0, 1, 2, 3, 4, 5, 0} {
		b, e := l.Batch(offset)
		want(t, "Batch", e, api.OK)
		answers = append(answers, b)
	}
	for range 2 {
		b, e := l.Batches(0)
		want(t, "Batches", e, api.OK)
		answers = append(answers, b...)
	}
	for i, a := range answers {
		for _, other := range append(answers[:i:i], texts(given)...) {
			if shares(a, other) {
				t.Fatal("an answer shares memory with another one, or with an argument")
			}
		}
	}
	for _, a := range answers {
		spoil(a)
	}
	checkSame(t, l, m)
	for range 2 {
		records, e := l.Read(0, math.MaxInt, math.MaxInt)
		want(t, "Read", e, api.OK)
		for i, r := range records[:cap(records)] {
			spoil(r.Value)
			records[:cap(records)][i] = api.Record{Offset: -1}
		}
		bases := l.Segments()
		for i := range bases[:cap(bases)] {
			bases[:cap(bases)][i] = -1
		}
		b, _ := l.Batches(0)
		for i := range b[:cap(b)] {
			b[:cap(b)][i] = "another one"
		}
		checkSame(t, l, m)
	}
}

// An answer holds its own bytes alone, not those that stand beside it in the file.
func TestAnswersAreSmall(t *testing.T) {
	r := rand.New(rand.NewSource(8))
	d := newDisk(t, api.MaxDisk)
	l, _ := filled(t, d, api.MaxDisk, []kept{bare(t, 0, 1)})
	for range 100 {
		want(t, "Append", l.Append(packed(t, plain(l.End(), 1, noise(r, 4000)), api.CodecNone).bytes), api.OK)
	}
	var held []string
	for range 500 {
		b, _ := l.Batches(0)
		held = append(held, b[0])
	}
	runtime.GC()
	var now runtime.MemStats
	runtime.ReadMemStats(&now)
	if now.HeapAlloc > 1<<26 {
		t.Errorf("%d bytes are held for %d answers", now.HeapAlloc, len(held))
	}
	runtime.KeepAlive(held)
	runtime.KeepAlive(l)
}

// A few records are read without reading a whole segment.
func TestLittleIsRead(t *testing.T) {
	d := newDisk(t, api.MaxDisk)
	l := opened(t, d, api.MaxDisk)
	for range 5000 {
		want(t, "Append", l.Append(packed(t, plain(l.End(), 1, "a value"), api.CodecNone).bytes), api.OK)
	}
	var ahead, behind runtime.MemStats
	runtime.ReadMemStats(&ahead)
	for i := range 500 {
		if r, e := l.Read(10*i, math.MaxInt, 1); len(r) != 1 || e != api.OK {
			t.Fatal(len(r), e)
		}
		if r, e := l.Read(10*i, 10*i+1, math.MaxInt); len(r) != 1 || e != api.OK {
			t.Fatal(len(r), e)
		}
	}
	runtime.ReadMemStats(&behind)
	if n := behind.TotalAlloc - ahead.TotalAlloc; n > 1000<<15 {
		t.Errorf("%d bytes for 1000 records", n)
	}
}

// R4: the same calls are answered alike, also on a copy of the disk; two logs know nothing of one another.
func TestR4Same(t *testing.T) {
	all := row(t, 0, 2, 1, 3, 1, 1, 2)
	d := newDisk(t, 1000)
	one, m := filled(t, d, 100, all)
	two, _ := filled(t, newDisk(t, 1000), 100, all)
	three := opened(t, d.Copy(), 100)
	for _, l := range []*seglog.Log{one, two, three} {
		checkSame(t, l, m)
	}
	want(t, "Cut", one.Cut(0), api.OK)
	for _, l := range []*seglog.Log{two, three} {
		checkSame(t, l, m)
	}
}

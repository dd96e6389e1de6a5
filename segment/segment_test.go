package segment_test

import (
	"math"
	"math/rand"
	"slices"
	"strconv"
	"strings"
	"testing"

	"postroad/api"
	"postroad/segment"
	"postroad/vdisk"
)

// The chapter's example.
func TestExample(t *testing.T) {
	l := row(t, 0, 3, 1, 1)
	s, m := filled(t, newDisk(t, 1000), "seg", 0, l)
	if s.End() != 5 {
		t.Error(s.End())
	}
	if b, e := s.Batch(2); b != l[0].bytes || e != api.OK {
		t.Errorf("%q, %d", b, e)
	}
	want(t, "Cut", s.Cut(3), m.cut(3))
	if s.End() != 3 {
		t.Error(s.End())
	}
	checkNumbers(t, s, m)
}

// checkNotOpened holds Open to nothing beside ErrArg.
func checkNotOpened(t *testing.T, d *vdisk.Disk, name string, base int) {
	t.Helper()
	if s, n, e := segment.Open(d, name, base); s != nil || n != 0 || e != api.ErrArg {
		t.Errorf("Open(%q, %d): %t, %d, %d", name, base, s != nil, n, e)
	}
}

// Sg1: disks, names and bases that may not be.
func TestSg1Arguments(t *testing.T) {
	d := fileOf(t, "seg", "rest of a batch", 4)
	byValue := *d
	for _, no := range []*vdisk.Disk{nil, {}, &byValue} {
		checkNotOpened(t, no, "seg", 0)
		checkNotOpened(t, no, "none", 0)
		checkNotOpened(t, no, "", -1)
	}
	for _, name := range []string{"", " ", "a b", "\x20seg", "seg\n", "seg\x7f", "ä", "\x00", strings.Repeat("s", api.MaxName+1)} {
		checkNotOpened(t, d, name, 0)
	}
	for _, base := range []int{-1, math.MinInt, lastBase + 1, api.MaxOffset, math.MaxInt} {
		checkNotOpened(t, d, "seg", base)
		checkNotOpened(t, d, "none", base)
	}
	// What was refused has cut nothing off.
	if d.Size("seg") != 15 || d.Synced("seg") != 4 || len(d.Names()) != 1 {
		t.Error(d.Size("seg"), d.Synced("seg"), d.Names())
	}
}

// Sg1: of no file, and of one without bytes: without batches, at each base and name that may be.
func TestSg1NoFile(t *testing.T) {
	for _, name := range []string{"s", "!", "~", strings.Repeat("s", api.MaxName)} {
		for _, base := range []int{0, 1, 77, lastBase - 1, lastBase} {
			d := newDisk(t, 0)
			checkSame(t, opened(t, d, name, base, 0), &model{base: base}, d, name)
			if len(d.Names()) != 0 {
				t.Error(d.Names())
			}
			d = fileOf(t, name, "", 0)
			checkSame(t, opened(t, d, name, base, 0), &model{base: base}, d, name)
		}
	}
}

// Sg1: a file of batches alone has them all; nothing is cut off.
func TestSg1Whole(t *testing.T) {
	for _, base := range []int{0, 1, 500, lastBase - 270} {
		m := &model{base: base, batches: row(t, base, 1, 3, 256, 2, 1, 7)}
		all := m.all()
		for _, synced := range []int{0, len(all)} {
			d := fileOf(t, "seg", all, synced)
			s := opened(t, d, "seg", base, 0)
			checkNumbers(t, s, m)
			if d.Size("seg") != len(all) || d.Synced("seg") != synced {
				t.Error(d.Size("seg"), d.Synced("seg"), "want", len(all), synced)
			}
			m.sync()
			want(t, "Sync", s.Sync(), api.OK)
			checkSame(t, s, m, d, "seg")
		}
	}
}

// checkOpened holds a segment of bytes against the batches that it is to have; what stands behind is cut off.
func checkOpened(t *testing.T, all string, base int, l []kept) {
	t.Helper()
	m := &model{base: base, batches: l, synced: len(l)}
	for _, synced := range []int{0, len(all) / 2, len(all)} {
		d := fileOf(t, "seg", all, synced)
		s := opened(t, d, "seg", base, len(all)-len(m.all()))
		if len(all) > len(m.all()) {
			checkFile(t, m, d, "seg")
		}
		checkNumbers(t, s, m)
		for _, k := range l {
			checkBatch(t, s, m, k.base)
		}
		checkBatch(t, s, m, m.end())
		again := opened(t, d, "seg", base, 0)
		checkNumbers(t, again, m)
	}
}

// Sg1: a file that breaks off at each place.
func TestSg1BreaksOff(t *testing.T) {
	m := &model{base: 9, batches: row(t, 9, 2, 1, 3)}
	all := m.all()
	whole := 0
	for n := range len(all) + 1 {
		if whole < 3 && n == len((&model{batches: m.batches[:whole+1]}).all()) {
			whole++
		}
		checkOpened(t, all[:n], 9, m.batches[:whole])
	}
	if whole != 3 {
		t.Error(whole)
	}
}

// Sg1: other bytes behind whole batches, and another byte in each place: what is whole behind it is cut off as well.
func TestSg1Spoilt(t *testing.T) {
	l := row(t, 0, 2, 1, 3)
	all := (&model{batches: l}).all()
	for _, behind := range []string{"\x00", "x", "PB", "PB\x1d\x00\x00\x00", strings.Repeat("\x00", 500), "x" + row(t, 6, 1)[0].bytes} {
		checkOpened(t, all+behind, 0, l)
		checkOpened(t, behind, 0, nil)
		checkOpened(t, behind+all, 0, nil)
	}
	for i := range all {
		spoilt := all[:i] + string([]byte{all[i] ^ 0x41}) + all[i+1:]
		whole := 0
		for at := len(l[0].bytes); at <= i; at += len(l[whole].bytes) {
			whole++
		}
		checkOpened(t, spoilt, 0, l[:whole])
	}
}

// Sg1: batches that do not follow one another, from the base on.
func TestSg1Follow(t *testing.T) {
	l := row(t, 10, 3, 2)
	all := l[0].bytes + l[1].bytes
	for _, base := range []int{0, 9, 11, 13, 15, lastBase} {
		checkOpened(t, all, base, nil)
	}
	checkOpened(t, l[1].bytes+l[0].bytes, 13, l[1:])
	checkOpened(t, l[0].bytes+l[0].bytes, 10, l[:1])
	for _, next := range []int{0, 9, 10, 14, 16, lastBase} {
		checkOpened(t, all+bare(t, next, 1).bytes+bare(t, 15, 1).bytes, 10, l)
	}
	checkOpened(t, all+bare(t, 15, 1).bytes, 10, append(l, bare(t, 15, 1)))
}

// Sg1: what has a right sum and a right head, but tells what may not be, is no batch.
func TestSg1FalseRecords(t *testing.T) {
	l := row(t, 0, 2, 1)
	all := l[0].bytes + l[1].bytes
	checkOpened(t, all+falseRecords(3, 1), 0, l)
	checkOpened(t, all+falseRecords(3, 1)+bare(t, 4, 1).bytes, 0, l)
	checkOpened(t, falseRecords(0, 1), 0, nil)
}

// Sg1: other files are left alone.
func TestSg1OtherFiles(t *testing.T) {
	d := fileOf(t, "seg", "no batch", 3)
	d.Append("sef", "other one")
	d.Append("seg2", "another")
	d.Sync("seg2")
	opened(t, d, "seg", 0, 8)
	if !slices.Equal(d.Names(), []string{"sef", "seg", "seg2"}) {
		t.Error(d.Names())
	}
	if d.Size("sef") != 9 || d.Synced("sef") != 0 || d.Size("seg") != 0 || d.Synced("seg2") != 7 {
		t.Error(d.Size("sef"), d.Synced("sef"), d.Size("seg"), d.Synced("seg2"))
	}
}

// Sg2: batches of all kinds, one behind the other; none of them is synced.
func TestSg2Append(t *testing.T) {
	for _, base := range []int{0, 1000, lastBase - 600} {
		d := newDisk(t, api.MaxDisk)
		m := &model{base: base}
		s := opened(t, d, "seg", base, 0)
		for i, k := range row(t, base, 1, 256, 3, 1, 2, 99, 200) {
			want(t, "Append", s.Append(k.bytes), api.OK)
			m.append(k)
			checkSame(t, s, m, d, "seg")
			if i == 3 {
				want(t, "Sync", s.Sync(), api.OK)
				m.sync()
				checkSame(t, s, m, d, "seg")
			}
		}
		checkSame(t, opened(t, d, "seg", base, 0), m, d, "seg")
	}
}

// notBatches are bytes that are not just a batch's: the first part of one at a base, one with more behind it, and others.
func notBatches(t *testing.T, base int) []string {
	k := packed(t, plain(base, 2, "value"), api.CodecDeflate)
	l := []string{"", "P", "PB", "no batch's bytes", k.bytes + "x", k.bytes + "\x00", k.bytes + k.bytes, k.bytes + bare(t, base+2, 1).bytes, "x" + k.bytes}
	for i := range k.bytes {
		l = append(l, k.bytes[:i], k.bytes[:i]+string([]byte{k.bytes[i] ^ 1})+k.bytes[i+1:])
	}
	return append(l, falseRecords(base, 2))
}

// Sg2: ErrBatch, ErrOrder and what the disk refuses, in this order; what is refused changes nothing.
func TestSg2AppendRefused(t *testing.T) {
	for _, l := range [][]kept{nil, row(t, 20, 3, 2)} {
		d := newDisk(t, len((&model{batches: l}).all()))
		s, m := filled(t, d, "seg", 20, l)
		names := len(d.Names())
		for _, no := range notBatches(t, m.end()) {
			want(t, "Append", s.Append(no), api.ErrBatch)
		}
		for _, no := range notBatches(t, 5) {
			want(t, "Append", s.Append(no), api.ErrBatch)
		}
		for _, base := range []int{0, 1, 19, 20, 21, 22, 23, 24, 25, 26, 45, lastBase} {
			e := api.ErrOrder
			if base == m.end() {
				e = api.ErrDisk
			}
			want(t, "Append", s.Append(bare(t, base, 1).bytes), e)
		}
		checkSame(t, s, m, d, "seg")
		if len(d.Names()) != names {
			t.Error(d.Names())
		}
	}
}

// Sg2: a disk that is full to the last byte, and one that has as many files as may be.
func TestSg2AppendNoRoom(t *testing.T) {
	l := row(t, 0, 1, 1, 1)
	all := len((&model{batches: l}).all())
	for _, lacks := range []int{0, 1, len(l[2].bytes)} {
		d := newDisk(t, all-lacks)
		s, m := filled(t, d, "seg", 0, l[:2])
		e := api.ErrDisk
		if lacks == 0 {
			e = api.OK
			m.append(l[2])
		}
		want(t, "Append", s.Append(l[2].bytes), e)
		checkSame(t, s, m, d, "seg")
	}
	d := newDisk(t, 1000)
	s := opened(t, d, "seg", 0, 0)
	for i := range api.MaxFiles {
		d.Append("f"+strconv.Itoa(i), "")
	}
	m := &model{}
	want(t, "Append", s.Append(bare(t, 1, 1).bytes), api.ErrOrder)
	want(t, "Append", s.Append(l[0].bytes), api.ErrFull)
	checkSame(t, s, m, d, "seg")
	d.Remove("f0")
	want(t, "Append", s.Append(l[0].bytes), api.OK)
	m.append(l[0])
	checkSame(t, s, m, d, "seg")
}

// Sg2: up to the last offset that there is, and no further.
func TestSg2LastOffset(t *testing.T) {
	d := newDisk(t, 1000)
	s, m := filled(t, d, "seg", lastBase, []kept{bare(t, lastBase, 256)})
	if s.End() != api.MaxOffset {
		t.Error(s.End())
	}
	for _, base := range []int{0, lastBase, lastBase - 256} {
		want(t, "Append", s.Append(bare(t, base, 1).bytes), api.ErrOrder)
	}
	checkSame(t, s, m, d, "seg")
	want(t, "Cut", s.Cut(api.MaxOffset), m.cut(api.MaxOffset))
	checkSame(t, s, m, d, "seg")
	want(t, "Cut", s.Cut(lastBase), m.cut(lastBase))
	checkSame(t, s, m, d, "seg")
}

// Sg2: to sync no file is nothing; a file is synced whole.
func TestSg2Sync(t *testing.T) {
	d := newDisk(t, 1000)
	s := opened(t, d, "seg", 0, 0)
	d.Append("other", "tail")
	want(t, "Sync", s.Sync(), api.OK)
	if len(d.Names()) != 1 {
		t.Error(d.Names())
	}
	m := &model{}
	for _, k := range row(t, 0, 2, 2) {
		want(t, "Append", s.Append(k.bytes), api.OK)
		m.append(k)
		want(t, "Sync", s.Sync(), api.OK)
		m.sync()
		checkSame(t, s, m, d, "seg")
	}
	if d.Synced("other") != 0 {
		t.Error("another file was synced")
	}
}

// Sg2: each offset is cut at, or is none; what is left goes on.
func TestSg2Cut(t *testing.T) {
	const base = 40
	for offset := base - 2; offset <= base+12; offset++ {
		d := newDisk(t, 2000)
		d.Append("sef", "other")
		s, m := filled(t, d, "seg", base, row(t, base, 3, 1, 4, 2))
		want(t, "Cut", s.Cut(offset), m.cut(offset))
		checkSame(t, s, m, d, "seg")
		want(t, "Cut", s.Cut(offset), m.cut(offset))
		checkSame(t, s, m, d, "seg")
		next := bare(t, m.end(), 5)
		want(t, "Append", s.Append(next.bytes), api.OK)
		m.append(next)
		checkSame(t, s, m, d, "seg")
		checkSame(t, opened(t, d, "seg", base, 0), m, d, "seg")
		if d.Size("sef") != 5 || d.Synced("sef") != 0 {
			t.Error("another file was cut")
		}
	}
}

// Sg2: numbers that are nowhere near; a segment without batches is cut at its base alone.
func TestSg2CutNone(t *testing.T) {
	far := []int{math.MinInt, -1, 0, 39, 51, 1 << 20, api.MaxOffset, math.MaxInt}
	for _, l := range [][]kept{nil, row(t, 40, 3, 7)} {
		d := newDisk(t, 1000)
		s, m := filled(t, d, "seg", 40, l)
		for _, offset := range far {
			want(t, "Cut", s.Cut(offset), api.ErrNone)
			checkBatch(t, s, m, offset)
		}
		checkSame(t, s, m, d, "seg")
		want(t, "Cut", s.Cut(40), api.OK)
		m.cut(40)
		checkSame(t, s, m, d, "seg")
		want(t, "Cut", s.Cut(43), api.ErrNone)
	}
	d := newDisk(t, 0)
	s := opened(t, d, "seg", 7, 0)
	want(t, "Cut", s.Cut(7), api.OK)
	if len(d.Names()) != 0 {
		t.Error(d.Names())
	}
}

// many are so many batches, small ones and others.
func many(t testing.TB, base, n int) []kept {
	t.Helper()
	r := rand.New(rand.NewSource(int64(n)))
	var l []kept
	for range n {
		l = append(l, someKept(t, r, base))
		base += l[len(l)-1].count
	}
	return l
}

// Sg2: among many batches each one is found by each of its offsets.
func TestSg2BatchOfMany(t *testing.T) {
	const base = 123456
	d := newDisk(t, api.MaxDisk)
	s, m := filled(t, d, "seg", base, many(t, base, 1500))
	for _, of := range []*segment.Segment{s, opened(t, d, "seg", base, 0)} {
		checkNumbers(t, of, m)
		for _, k := range m.batches {
			for offset := k.base; offset < k.base+k.count; offset += 1 + k.count/5 {
				if b, e := of.Batch(offset); b != k.bytes || e != api.OK {
					t.Fatalf("Batch(%d): %d bytes, %d", offset, len(b), e)
				}
			}
			if b, e := of.Batch(k.base + k.count - 1); b != k.bytes || e != api.OK {
				t.Fatalf("Batch(%d): %d bytes, %d", k.base+k.count-1, len(b), e)
			}
		}
		checkBatch(t, of, m, base-1)
		checkBatch(t, of, m, m.end())
	}
}

// Sg2: and cut off one by one, and a few at a time, with others in their place.
func TestSg2CutOfMany(t *testing.T) {
	r := rand.New(rand.NewSource(4))
	d := newDisk(t, api.MaxDisk)
	s, m := filled(t, d, "seg", 0, many(t, 0, 400))
	for len(m.batches) > 0 {
		k := m.batches[max(0, len(m.batches)-1-r.Intn(4))]
		if k.count > 1 {
			want(t, "Cut", s.Cut(k.base+1+r.Intn(k.count-1)), api.ErrNone)
		}
		want(t, "Cut", s.Cut(k.base), m.cut(k.base))
		checkNumbers(t, s, m)
		if r.Intn(3) == 0 {
			next := someKept(t, r, m.end())
			want(t, "Append", s.Append(next.bytes), api.OK)
			m.append(next)
		}
		for range 4 {
			checkBatch(t, s, m, r.Intn(m.end()+1))
		}
		checkBatch(t, s, m, m.end()-1)
		checkFile(t, m, d, "seg")
	}
	checkSame(t, s, m, d, "seg")
}

// Sg2: batches as large as may be, beside small ones.
func TestSg2Large(t *testing.T) {
	r := rand.New(rand.NewSource(5))
	d := newDisk(t, api.MaxDisk)
	s := opened(t, d, "seg", 0, 0)
	m := &model{}
	for i := range 20 {
		k := bare(t, m.end(), 1+i)
		if i%3 != 0 {
			k = large(t, r, m.end(), []int{261000, 4000, 4057, 4058}[i%4])
		}
		want(t, "Append", s.Append(k.bytes), api.OK)
		m.append(k)
	}
	checkSame(t, s, m, d, "seg")
	s = opened(t, d, "seg", 0, 0)
	checkSame(t, s, m, d, "seg")
	for i := len(m.batches) - 1; i >= 0; i-- {
		want(t, "Cut", s.Cut(m.batches[i].base), m.cut(m.batches[i].base))
		checkSame(t, s, m, d, "seg")
	}
}

// Sg3: a crash with each number of bytes that survive: all that was synced is there, and a beginning of the others.
func TestSg3EachByte(t *testing.T) {
	l := row(t, 5, 3, 1, 2, 4)
	for synced := range len(l) + 1 {
		d := newDisk(t, api.MaxDisk)
		s, m := filled(t, d, "seg", 5, l[:synced])
		want(t, "Sync", s.Sync(), api.OK)
		m.sync()
		for _, k := range l[synced:] {
			want(t, "Append", s.Append(k.bytes), api.OK)
			m.append(k)
		}
		for keep := range len(m.all()) - m.syncedBytes() + 2 {
			c := d.Copy()
			now := *m
			want(t, "Crash", c.Crash([]int{keep}), api.OK)
			off := now.crash(keep)
			if len(now.batches) < synced {
				t.Fatal("the model lost what was synced")
			}
			checkSame(t, opened(t, c, "seg", 5, off), &now, c, "seg")
		}
	}
}

// Sg3: what Cut left survives; what it cut off does not come again.
func TestSg3Cut(t *testing.T) {
	l := row(t, 5, 3, 1, 2, 4)
	for i := range len(l) + 1 {
		d := newDisk(t, api.MaxDisk)
		s, m := filled(t, d, "seg", 5, l)
		at := (&model{base: 5, batches: l[:i]}).end()
		want(t, "Cut", s.Cut(at), m.cut(at))
		want(t, "Crash", d.Crash(nil), api.OK)
		checkSame(t, opened(t, d, "seg", 5, 0), m, d, "seg")
	}
}

// Sg3, Sg2: whatever is called, with crashes between.
func TestSg3Whatever(t *testing.T) {
	for seed := range 30 {
		r := rand.New(rand.NewSource(int64(seed)))
		base := []int{0, 7, lastBase - 100000}[seed%3]
		d := newDisk(t, api.MaxDisk)
		s := opened(t, d, "seg", base, 0)
		m := &model{base: base}
		for range 150 {
			switch r.Intn(12) {
			case 0:
				want(t, "Sync", s.Sync(), api.OK)
				m.sync()
			case 1:
				offset := base + r.Intn(m.end()-base+2)
				if r.Intn(2) == 0 && len(m.batches) > 0 {
					offset = m.batches[len(m.batches)-1-r.Intn(min(len(m.batches), 9))].base
				}
				want(t, "Cut", s.Cut(offset), m.cut(offset))
			case 2:
				keep := r.Intn(len(m.all()) - m.syncedBytes() + 1)
				d.Crash([]int{keep})
				s = opened(t, d, "seg", base, m.crash(keep))
			case 3:
				want(t, "Append", s.Append(someKept(t, r, m.end()+1+r.Intn(9)).bytes), api.ErrOrder)
			default:
				k := someKept(t, r, m.end())
				want(t, "Append", s.Append(k.bytes), api.OK)
				m.append(k)
			}
			checkNumbers(t, s, m)
			checkBatch(t, s, m, base+r.Intn(m.end()-base+1))
			checkFile(t, m, d, "seg")
		}
		checkSame(t, s, m, d, "seg")
	}
}

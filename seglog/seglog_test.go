package seglog_test

import (
	"math"
	"math/rand"
	"slices"
	"strconv"
	"strings"
	"testing"

	"postroad/api"
	"postroad/seglog"
	"postroad/vdisk"
)

// The chapter's example.
func TestExample(t *testing.T) {
	l, m := filled(t, newDisk(t, 1000), 1, row(t, 0, 2, 1, 3))
	if !slices.Equal(l.Segments(), []int{0, 2, 3}) {
		t.Error(l.Segments())
	}
	checkSame(t, l, m)
	want(t, "Cut", l.Cut(0), api.OK)
	if !slices.Equal(l.Segments(), []int{0}) || l.End() != 0 {
		t.Error(l.Segments(), l.End())
	}
}

// Sl1: disks and limits that may not be.
func TestSl1Arguments(t *testing.T) {
	d := newDisk(t, 1000)
	filled(t, d, 60, row(t, 0, 1, 1, 1))
	d.Append("seg0000000000002", "rest")
	was := d.Copy()
	byValue := *d
	refused := func(d *vdisk.Disk, limit int) {
		t.Helper()
		if l, e := seglog.Open(d, limit); l != nil || e != api.ErrArg {
			t.Errorf("Open(%d): %t, %d", limit, l != nil, e)
		}
	}
	for _, no := range []*vdisk.Disk{nil, {}, &byValue} {
		refused(no, 1)
		refused(no, 0)
	}
	for _, limit := range []int{0, -1, math.MinInt, api.MaxDisk + 1, math.MaxInt} {
		refused(d, limit)
	}
	checkUntouched(t, d, was)
	for _, limit := range []int{1, 2, 1000, api.MaxDisk - 1, api.MaxDisk} {
		checkSame(t, opened(t, newDisk(t, 200), limit), newModel(limit))
	}
}

// Sl1: an empty disk of 200 bytes or more has room to open a log, and so has one on which a log was opened, however full it is.
func TestSl1OpenHasRoom(t *testing.T) {
	for _, room := range []int{200, 201, 500, api.MaxDisk} {
		d := newDisk(t, room)
		checkSame(t, opened(t, d, 10), newModel(10))
		want(t, "Append", d.Append("other", strings.Repeat("x", room-d.Used())), api.OK)
		checkSame(t, opened(t, d, 10), newModel(10))
		want(t, "Crash", d.Crash([]int{0, room, room}), api.OK)
		d.Append("other", strings.Repeat("x", room-d.Used()))
		checkSame(t, opened(t, d, 10), newModel(10))
	}
	d := newDisk(t, 10000)
	_, m := filled(t, d, 50, row(t, 0, 2, 1, 3, 1))
	for i := 0; len(d.Names()) < api.MaxFiles; i++ {
		want(t, "Append", d.Append("other"+strconv.Itoa(i), "x"), api.OK)
	}
	d.Append("other0", strings.Repeat("x", 10000-d.Used()))
	checkSame(t, openedAgain(t, d, 50, m), m)
	for range 3 {
		want(t, "Crash", d.Crash(nil), api.OK)
		checkSame(t, reopened(t, d, 50, m), m)
	}
}

// Sl1: a disk with files of others, on which no log was opened, has one without batches.
func TestSl1OthersFiles(t *testing.T) {
	d := newDisk(t, 10000)
	all := strangers(t, d)
	l := opened(t, d, 60)
	checkSame(t, l, newModel(60))
	all.check(t, d)
	m := newModel(60)
	for _, k := range row(t, 0, 2, 1, 3, 1, 1, 2) {
		want(t, "Append", l.Append(k.bytes), api.OK)
		m.append(k)
		all.check(t, d)
	}
	want(t, "Sync", l.Sync(), api.OK)
	all.check(t, d)
	r := rand.New(rand.NewSource(1))
	base, end := m.runs[0].base, m.runs[0].end()
	swapped := others(t, r, base, end)
	want(t, "Swap", l.Swap(base, texts(swapped)), api.OK)
	m.swap(base, swapped)
	all.check(t, d)
	want(t, "Cut", l.Cut(3), m.cut(3))
	all.check(t, d)
	checkSame(t, l, m)
	checkSame(t, openedAgain(t, d, 60, m), m)
	all.check(t, d)
}

// Sl1: segments begin where the one ahead has limit bytes or more; a batch without records has 39.
func TestSl1Rolls(t *testing.T) {
	for limit, each := range map[int]int{1: 1, 38: 1, 39: 1, 40: 2, 77: 2, 78: 2, 79: 3, 390: 10, 391: 11, api.MaxDisk: 100} {
		l := opened(t, newDisk(t, 100000), limit)
		var bases []int
		for i := range 50 {
			if i%each == 0 {
				bases = append(bases, 2*i)
			}
			want(t, "Append", l.Append(bare(t, 2*i, 2).bytes), api.OK)
			if !slices.Equal(l.Segments(), bases) || l.End() != 2*i+2 {
				t.Fatal(limit, l.Segments(), l.End(), "want", bases)
			}
		}
	}
}

// Sl1: another limit, when the log is opened again, holds from then on.
func TestSl1OtherLimit(t *testing.T) {
	d := newDisk(t, 10000)
	_, m := filled(t, d, 100, row(t, 0, 1, 1, 1, 1, 1))
	for _, limit := range []int{1, 1000, 50, api.MaxDisk} {
		l := openedAgain(t, d, limit, m)
		for range 3 {
			k := bare(t, m.end(), 3)
			want(t, "Append", l.Append(k.bytes), api.OK)
			m.append(k)
			checkShape(t, l, m)
		}
	}
}

// noBatches are bytes that are not just a batch's that could come next at a base.
func noBatches(t testing.TB, base int) []string {
	b := bare(t, base, 1).bytes
	last := len(b) - 1
	return []string{"", "P", "PB", "no batch", b[:last], b[1:], b + "x", b + b, b[:last] + "x", strings.Repeat("\x00", 39), "x" + b}
}

// Sl1, Sl4: what is not just a batch's bytes, or does not come next, is refused, and leaves the log as it was; also where another segment would begin.
func TestSl1Refuses(t *testing.T) {
	for _, limit := range []int{1, 60, 100, 1000} {
		d := newDisk(t, 1000)
		l, m := filled(t, d, limit, nil)
		for _, k := range row(t, 0, 2, 1, 3, 1) {
			was := d.Copy()
			for _, b := range noBatches(t, m.end()) {
				want(t, "Append", l.Append(b), api.ErrBatch)
			}
			for _, base := range []int{0, 1, m.end() - 1, m.end() + 1, m.end() + 256, api.MaxOffset - api.MaxRecords} {
				if base >= 0 && base != m.end() {
					want(t, "Append", l.Append(bare(t, base, 1).bytes), api.ErrOrder)
				}
			}
			checkUntouched(t, d, was)
			checkSame(t, l, m)
			want(t, "Append", l.Append(k.bytes), api.OK)
			m.append(k)
		}
	}
}

// Sl1, Sl4: a disk without room refuses a batch by ErrDisk, and leaves the log as it was; when there is room, it is taken.
func TestSl1DiskFull(t *testing.T) {
	for _, limit := range []int{1, 60, 78, 100, 1000} {
		d := newDisk(t, 400)
		l, m := filled(t, d, limit, nil)
		for m.end() < 4 {
			want(t, "Append", d.Append("other", strings.Repeat("x", 400-d.Used()-38)), api.OK)
			k := bare(t, m.end(), 1)
			for range 2 {
				want(t, "Append", l.Append(k.bytes), api.ErrDisk)
				want(t, "Append", l.Append(k.bytes+"x"), api.ErrBatch)
				want(t, "Append", l.Append(bare(t, k.base+1, 1).bytes), api.ErrOrder)
				if l.End() != m.end() {
					t.Fatal(l.End(), m.end())
				}
				checkBatches(t, l, m, 0)
			}
			want(t, "Remove", d.Remove("other"), api.OK)
			want(t, "Append", l.Append(k.bytes), api.OK)
			m.append(k)
			checkSame(t, l, m)
		}
		checkSame(t, openedAgain(t, d, limit, m), m)
	}
}

// Sl1, Sl4: with as many files as there may be, a batch that would begin another one is refused by ErrFull.
func TestSl1FilesFull(t *testing.T) {
	d := newDisk(t, api.MaxDisk)
	l, m := filled(t, d, 1, nil)
	for len(d.Names()) < api.MaxFiles {
		k := bare(t, m.end(), 1)
		want(t, "Append", l.Append(k.bytes), api.OK)
		m.append(k)
	}
	if m.end() < 200 {
		t.Fatal(m.end())
	}
	for range 3 {
		want(t, "Append", l.Append(bare(t, m.end(), 1).bytes), api.ErrFull)
		checkShape(t, l, m)
	}
	l = openedAgain(t, d, 1, m)
	want(t, "Append", l.Append(bare(t, m.end(), 1).bytes), api.ErrFull)
	checkSame(t, l, m)
	want(t, "Swap", l.Swap(7, []string{bare(t, 7, 1).bytes}), api.ErrFull)
	checkSame(t, l, m)
	want(t, "Cut", l.Cut(m.end()-1), m.cut(m.end()-1))
	k := bare(t, m.end(), 2)
	want(t, "Append", l.Append(k.bytes), api.OK) // the last segment has no batches, so that none begins
	m.append(k)
	checkSame(t, l, m)
}

// Sl1: Cut at each offset of a log of several segments: at batches' bases and the end alone.
func TestSl1Cut(t *testing.T) {
	for _, limit := range []int{1, 60, 100, 200, 1000} {
		d := newDisk(t, 1000)
		_, whole := filled(t, d, limit, row(t, 0, 2, 1, 3, 1, 2, 1, 5))
		for offset := -2; offset < whole.end()+3; offset++ {
			for _, again := range []bool{false, true} {
				d, m := d.Copy(), whole.copy()
				l := opened(t, d, limit)
				was := d.Copy()
				e := m.cut(offset)
				want(t, "Cut", l.Cut(offset), e)
				if e != api.OK {
					checkUntouched(t, d, was)
				}
				checkSame(t, l, m)
				if again {
					want(t, "Crash", d.Crash(nil), api.OK)
					l = reopened(t, d, limit, m)
				}
				for _, k := range row(t, m.end(), 4, 1, 1) {
					want(t, "Append", l.Append(k.bytes), api.OK)
					m.append(k)
					checkSame(t, l, m)
				}
			}
		}
		for _, offset := range []int{math.MinInt, math.MaxInt} {
			want(t, "Cut", opened(t, d, limit).Cut(offset), api.ErrNone)
		}
	}
}

// Sl2: each record below each offset, and so many of them.
func TestSl2Read(t *testing.T) {
	for _, limit := range []int{1, 100, 10000} {
		d := newDisk(t, 10000)
		r := rand.New(rand.NewSource(5))
		l, m := filled(t, d, limit, others(t, r, 0, 25))
		for offset := range 28 {
			for below := range 28 {
				for _, most := range []int{0, 1, 2, 7, 100, math.MaxInt} {
					checkRead(t, l, m, offset, below, most)
				}
			}
			checkRead(t, l, m, offset, math.MaxInt, math.MaxInt)
			checkRead(t, l, m, offset, math.MaxInt, 1)
		}
		checkRead(t, l, m, math.MaxInt, math.MaxInt, math.MaxInt)
		for _, no := range []int{-1, math.MinInt} {
			checkRead(t, l, m, no, 5, 5)
			checkRead(t, l, m, 0, no, 5)
			checkRead(t, l, m, 0, 5, no)
			checkRead(t, l, m, 99, 5, no)
		}
	}
}

// Sl2: of a log without batches.
func TestSl2Empty(t *testing.T) {
	l := opened(t, newDisk(t, 200), 5)
	if l.End() != 0 || !slices.Equal(l.Segments(), []int{0}) {
		t.Error(l.End(), l.Segments())
	}
	if b, e := l.Batch(0); b != "" || e != api.ErrNone {
		t.Errorf("%q, %d", b, e)
	}
	if b, e := l.Batches(0); len(b) != 0 || e != api.OK {
		t.Error(b, e)
	}
	if b, e := l.Batches(1); b != nil || e != api.ErrNone {
		t.Error(b, e)
	}
	if b, e := l.Read(0, 9, 9); len(b) != 0 || e != api.OK {
		t.Error(b, e)
	}
	want(t, "Swap", l.Swap(0, nil), api.ErrNone)
	want(t, "Sync", l.Sync(), api.OK)
	want(t, "Cut", l.Cut(1), api.ErrNone)
	want(t, "Cut", l.Cut(0), api.OK)
	checkSame(t, l, newModel(5))
}

// Sl2: closed segments take other batches with the same offsets, cut as they like, and that survives with all that stands.
func TestSl2Swap(t *testing.T) {
	r := rand.New(rand.NewSource(6))
	for _, limit := range []int{1, 60, 100, 200} {
		d := newDisk(t, 10000)
		_, whole := filled(t, d, limit, row(t, 0, 2, 1, 3, 1, 2, 1, 5))
		for i, s := range whole.runs[:len(whole.runs)-1] {
			for _, l := range [][]kept{s.batches, others(t, r, s.base, s.end()), {bare(t, s.base, s.end()-s.base)}} {
				d, m := d.Copy(), whole.copy()
				log := opened(t, d, limit)
				want(t, "Swap", log.Swap(s.base, texts(l)), api.OK)
				m.swap(s.base, l)
				checkSame(t, log, m)
				if i%2 == 0 {
					want(t, "Crash", d.Crash(nil), api.OK)
					log = reopened(t, d, limit, m)
				}
				k := bare(t, m.end(), 2)
				want(t, "Append", log.Append(k.bytes), api.OK)
				m.append(k)
				checkSame(t, log, m)
			}
		}
	}
}

// Sl2, Sl4: what Swap refuses, in the order in which the chapter names it; a swap that is refused is not there at all.
func TestSl2SwapRefuses(t *testing.T) {
	d := newDisk(t, 1000)
	l, m := filled(t, d, 100, row(t, 0, 2, 1, 3, 1, 2, 1))
	if len(m.runs) != 2 {
		t.Fatal(m.segments())
	}
	end := m.runs[0].end()
	was := d.Copy()
	refused := func(e api.Errno, base int, batches ...string) {
		t.Helper()
		want(t, "Swap", l.Swap(base, batches), e)
		checkUntouched(t, d, was)
		checkSame(t, l, m)
	}
	for _, base := range []int{math.MinInt, -1, 1, 2, end - 1, end + 1, m.last().base, m.end(), math.MaxInt} {
		refused(api.ErrNone, base)
		refused(api.ErrNone, base, "no batch")
		refused(api.ErrNone, base, bare(t, max(0, min(base, 1000)), 1).bytes)
	}
	refused(api.ErrBatch, 0)
	refused(api.ErrBatch, 0, "")
	for _, b := range noBatches(t, 0) {
		refused(api.ErrBatch, 0, b)
		refused(api.ErrBatch, 0, b, bare(t, 1, end-1).bytes)
		refused(api.ErrBatch, 0, bare(t, 0, end).bytes, b)
	}
	whole := bare(t, 0, end).bytes
	for _, batches := range [][]string{
		{bare(t, 0, end-1).bytes}, {bare(t, 0, end+1).bytes}, {bare(t, 1, end).bytes}, {bare(t, 1, end-1).bytes},
		{whole, whole}, {whole, bare(t, end, 1).bytes}, {bare(t, 0, 1).bytes, bare(t, 2, end-2).bytes},
		{bare(t, 0, 2).bytes, bare(t, 1, end-1).bytes}, {bare(t, 1, end-1).bytes, bare(t, 0, 1).bytes},
		texts(m.all()), texts(m.runs[1].batches), {whole + bare(t, end, 1).bytes},
	} {
		refused(api.ErrBatch, 0, batches...)
	}
	large := packed(t, plain(0, end, noise(rand.New(rand.NewSource(2)), 1000)), api.CodecNone)
	refused(api.ErrDisk, 0, large.bytes)
	refused(api.ErrBatch, 0, large.bytes, "")
}

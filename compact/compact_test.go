package compact_test

import (
	"math"
	"math/rand"
	"slices"
	"strconv"
	"strings"
	"testing"

	"postroad/api"
	"postroad/compact"
	"postroad/seglog"
	"postroad/vdisk"
)

var codecs = []int{api.CodecNone, api.CodecDeflate, api.CodecLz}

// The chapter's example.
func TestExample(t *testing.T) {
	for _, codec := range codecs {
		l := written(t, newDisk(t, 1000), "aba", "a")
		checkRun(t, l, 3, codec, 1)
		checkOffsets(t, l, 1, 2, 3)
		l = written(t, newDisk(t, 1000), "aba", "a")
		checkRun(t, l, 4, codec, 2)
		checkOffsets(t, l, 1, 3)
	}
}

// a=1, b=2, a=3 compacted: b=2 at 1, a=3 at 2.
func TestExampleOfTheWhole(t *testing.T) {
	l := opened(t, newDisk(t, 1000), 1)
	all := []api.Record{{Offset: 0, Key: "a", Value: "1"}, {Offset: 1, Key: "b", Value: "2"}, {Offset: 2, Key: "a", Value: "3"}}
	for _, r := range all {
		add(t, l, api.Batch{Base: r.Offset, Count: 1, Records: []api.Record{r}}, api.CodecNone)
	}
	checkLatest(t, l, 3, all[1:])
	checkRun(t, l, 3, api.CodecDeflate, 1)
	if got, e := l.Read(0, 9, 9); !slices.Equal(got, all[1:]) || e != api.OK {
		t.Error(got, e)
	}
}

// Cm1: numbers that may not be.
func TestCm1Arguments(t *testing.T) {
	d := newDisk(t, 1000)
	l := written(t, d, "aba", "a", "ba")
	was := d.Copy()
	for _, below := range []int{-1, -2, math.MinInt} {
		if r, e := compact.Latest(l, below); len(r) != 0 || e != api.ErrArg {
			t.Error(below, r, e)
		}
	}
	for _, codec := range codecs {
		for _, below := range []int{math.MinInt, -1, 7, 8, math.MaxInt} {
			checkRefused(t, l, below, codec, api.ErrArg)
		}
	}
	for _, codec := range []int{math.MinInt, -1, 3, 4, 256, math.MaxInt} {
		for _, below := range []int{-1, 0, 3, 6, 7} {
			checkRefused(t, l, below, codec, api.ErrArg)
		}
	}
	checkUntouched(t, d, was)
	checkRun(t, l, 6, api.CodecNone, 4)
}

// Cm1: a log without batches, and one without closed segments.
func TestCm1NothingClosed(t *testing.T) {
	d := newDisk(t, 1000)
	l := opened(t, d, 500)
	checkLatest(t, l, 0, nil)
	checkLatest(t, l, math.MaxInt, nil)
	checkRun(t, l, 0, api.CodecLz, 0)
	checkRefused(t, l, 1, api.CodecLz, api.ErrArg)
	add(t, l, keyed(0, "aaaa"), api.CodecNone)
	add(t, l, keyed(4, "aa"), api.CodecNone)
	was := d.Copy()
	checkRun(t, l, 6, api.CodecLz, 0)
	checkUntouched(t, d, was)
	checkLatest(t, l, 6, []api.Record{{Offset: 5, Key: "a", Value: "va"}})
}

// Cm1: Latest below each offset, also within batches and beyond the end.
func TestCm1Latest(t *testing.T) {
	r := rand.New(rand.NewSource(1))
	for _, limit := range []int{1, 100, 300, 10000} {
		l := someLog(t, r, newDisk(t, 10000), limit, 15)
		p := pick(t, l)
		for below := range l.End() + 3 {
			checkLatest(t, l, below, p.latest(below))
		}
		checkLatest(t, l, math.MaxInt, p.latest(l.End()))
	}
}

// Cm1: Run below each offset, by each codec.
func TestCm1Run(t *testing.T) {
	r := rand.New(rand.NewSource(2))
	for _, limit := range []int{1, 60, 100, 300, 10000} {
		d := newDisk(t, 20000)
		end := someLog(t, r, d, limit, 15).End()
		for below := range end + 1 {
			checkWhole(t, opened(t, d.Copy(), limit), below, codecs[below%3])
		}
		for _, codec := range codecs {
			checkWhole(t, opened(t, d.Copy(), limit), end, codec)
		}
	}
}

// Cm1: a segment is compacted where its end is at or below the offset; records ahead of the offset count in all segments, also in the last one.
func TestCm1Below(t *testing.T) {
	for below, left := range map[int][]int{
		0: {0, 1, 2, 3, 4, 5, 6, 7},
		2: {0, 1, 2, 3, 4, 5, 6, 7},
		3: {1, 2, 3, 4, 5, 6, 7},
		4: {1, 2, 3, 4, 5, 6, 7}, // the second segment ends at 5
		5: {1, 2, 3, 4, 5, 6, 7},
		6: {1, 3, 4, 5, 6, 7}, // 2 comes again at 5
		7: {1, 4, 5, 6, 7},    // 3 comes again at 6
		8: {4, 5, 6, 7},       // 1 comes again at 7
	} {
		l := written(t, newDisk(t, 1000), "aba", "cd", "acb")
		checkWhole(t, l, below, api.CodecNone)
		checkOffsets(t, l, left...)
	}
}

// Cm1: records that are gone are kept, and dropped, as others are.
func TestCm1Gone(t *testing.T) {
	l := written(t, newDisk(t, 1000), "aA", "Bbc", "C", "A", "x")
	checkLatest(t, l, 2, []api.Record{{Offset: 1, Key: "a", Gone: true}})
	checkWhole(t, l, 6, api.CodecLz)
	checkOffsets(t, l, 1, 3, 5, 6, 7)
	checkWhole(t, l, 8, api.CodecLz)
	checkOffsets(t, l, 3, 5, 6, 7)
	checkLatest(t, l, 8, []api.Record{
		{Offset: 3, Key: "b", Value: "vb"}, {Offset: 5, Key: "c", Gone: true}, {Offset: 6, Key: "a", Gone: true}, {Offset: 7, Key: "x", Value: "vx"},
	})
}

// Cm1: a batch whose records are all dropped is there, with its numbers; so is one that had none.
func TestCm1NoRecordsLeft(t *testing.T) {
	for _, codec := range codecs {
		l := written(t, newDisk(t, 1000), "ab", "   ", "a ", "ab", "c")
		was := pick(t, l)
		checkRun(t, l, l.End(), codec, 3)
		checkOffsets(t, l, 7, 8, 9)
		after := pick(t, l)
		for i, b := range after.batches {
			b.Records = was.batches[i].Records
			if !sameBatch(b, was.batches[i]) {
				t.Error(b, was.batches[i])
			}
		}
		for offset, base := range []int{0, 0, 2, 2, 2, 5, 5, 7, 7, 9} {
			if s, e := l.Batch(offset); s != allBytes(t, l)[slices.IndexFunc(after.batches, func(b api.Batch) bool { return b.Base == base })] || e != api.OK {
				t.Error(offset, e)
			}
		}
	}
}

// Cm1: keys are told apart by all their bytes.
func TestCm1Keys(t *testing.T) {
	keys := []string{"", "a", "A", "aa", "a\x00", "\x00", "\xff", "\xff\xff", strings.Repeat("k", api.MaxKey), strings.Repeat("k", api.MaxKey-1) + "l", strings.Repeat("k", api.MaxKey-1)}
	l := opened(t, newDisk(t, 10000), 1)
	for range 3 {
		b := api.Batch{Base: l.End(), Count: len(keys)}
		for i, k := range keys {
			b.Records = append(b.Records, api.Record{Offset: b.Base + i, Key: k, Value: k})
		}
		add(t, l, b, api.CodecLz)
	}
	n := len(keys)
	checkWhole(t, l, 2*n, api.CodecDeflate)
	checkWhole(t, l, 3*n, api.CodecNone)
	if got := offsetsOf(t, l); len(got) != n || got[0] != 2*n {
		t.Error(got)
	}
}

// Cm1: segments of several batches, of which some lose nothing.
func TestCm1SeveralBatches(t *testing.T) {
	for _, codec := range codecs {
		l := opened(t, newDisk(t, 10000), 150)
		for i, keys := range []string{"ab", "cd", " ", "ae", "fg", "ca", "x", "y", "xz"} {
			add(t, l, keyed(l.End(), keys), i%3)
		}
		if len(l.Segments()) < 3 {
			t.Fatal(l.Segments())
		}
		checkWhole(t, l, 9, codec)
		checkWhole(t, l, l.End(), codec)
	}
}

// fill lets a file of another take the room that a disk has, but so many bytes.
func fill(t *testing.T, d *vdisk.Disk, room, but int) {
	t.Helper()
	want(t, "Append", d.Append("other", strings.Repeat("x", room-d.Used()-but)), api.OK)
}

// large is a batch of a record that takes so many bytes, and one of another key.
func large(base int, key string, size int) api.Batch {
	return api.Batch{Base: base, Count: 2, Records: []api.Record{
		{Offset: base, Key: "again", Value: "v"},
		{Offset: base + 1, Key: key, Value: noise(rand.New(rand.NewSource(int64(base))), size)},
	}}
}

// Cm1: a disk without room: the segments ahead of the one that is refused are done, the others are as they were.
func TestCm1DiskFull(t *testing.T) {
	const room = 5000
	for _, codec := range codecs {
		d := newDisk(t, room)
		l := opened(t, d, 1)
		for i, size := range []int{50, 100, 600, 50} {
			add(t, l, large(l.End(), strconv.Itoa(i), size), api.CodecNone)
		}
		add(t, l, keyed(l.End(), "z"), api.CodecNone)
		add(t, l, large(l.End(), "last", 1), api.CodecNone)
		fill(t, d, room, 300)
		was := pick(t, l)
		for range 3 {
			checkRefused(t, l, l.End(), codec, api.ErrDisk)
			checkOffsets(t, l, 1, 3, 4, 5, 6, 7, 8, 9, 10)
			checkLatest(t, l, l.End(), was.latest(l.End()))
		}
		want(t, "Remove", d.Remove("other"), api.OK)
		checkRun(t, l, l.End(), codec, 2)
		after, _ := was.compacted(l.End())
		checkPicked(t, l, after)
	}
}

// Cm1: with as many files as there may be, layer 12 has none to write aside.
func TestCm1FilesFull(t *testing.T) {
	d := newDisk(t, 50000)
	l := written(t, d, "ab", "aab", "a")
	for i := 0; len(d.Names()) < api.MaxFiles; i++ {
		want(t, "Append", d.Append("other"+strconv.Itoa(i), "x"), api.OK)
	}
	was := d.Copy()
	checkRefused(t, l, 6, api.CodecNone, api.ErrFull)
	checkUntouched(t, d, was)
	want(t, "Remove", d.Remove("other0"), api.OK)
	checkRun(t, l, 6, api.CodecNone, 4)
}

// Cm1: where nothing is dropped, no room is asked for, and nothing is written.
func TestCm1NothingToDrop(t *testing.T) {
	const room = 1000
	d := newDisk(t, room)
	l := written(t, d, "ab", "cd", " ", "E", "fg")
	fill(t, d, room, 0)
	was := d.Copy()
	for _, codec := range codecs {
		for below := range l.End() + 1 {
			checkRun(t, l, below, codec, 0)
		}
	}
	checkUntouched(t, d, was)
}

// again appends a batch with the keys of those records of another one that are to be dropped.
func again(t *testing.T, l *seglog.Log, records []api.Record) {
	t.Helper()
	b := api.Batch{Base: l.End(), Count: len(records)}
	for i, r := range records {
		b.Records = append(b.Records, api.Record{Offset: b.Base + i, Key: r.Key})
	}
	add(t, l, b, api.CodecNone)
}

// Cm1: records are dropped also where the batch is too long for the codec; another one takes it.
func TestCm1TooLongForTheCodec(t *testing.T) {
	r := rand.New(rand.NewSource(3))
	filled := func(n int, value func() string) api.Batch {
		b := api.Batch{Count: api.MaxRecords, View: 3, Producer: 2, Seq: 1}
		for i := range n {
			b.Records = append(b.Records, api.Record{Offset: i, Key: strconv.Itoa(i), Value: value()})
		}
		return b
	}
	easy := filled(250, func() string { return strings.Repeat("v", api.MaxValue) })
	hard := filled(63, func() string { return noise(r, api.MaxValue) })
	hard.Records = append(hard.Records, api.Record{Offset: 100, Key: "short", Value: "v"})
	whole := len(packed(t, hard, api.CodecNone)) - 10
	hard.Records = append(hard.Records, api.Record{Offset: 101, Key: "rest", Value: noise(r, api.MaxBatch-whole-9)})
	for _, c := range []struct {
		b         api.Batch
		by, codec int
		drop      string
	}{
		{easy, api.CodecDeflate, api.CodecNone, "7"},
		{easy, api.CodecLz, api.CodecNone, "7"},
		{hard, api.CodecNone, api.CodecDeflate, "short"},
		{hard, api.CodecNone, api.CodecLz, "short"},
	} {
		l := opened(t, newDisk(t, api.MaxDisk), 1)
		add(t, l, c.b, c.by)
		again(t, l, []api.Record{{Key: c.drop}})
		after, n := pick(t, l).compacted(l.End())
		if n != 1 {
			t.Fatal(n)
		}
		checkRun(t, l, l.End(), c.codec, 1)
		checkPicked(t, l, after)
	}
}

// wide is a batch of a few values that come again and again, and those of its records without which no codec of the batch's reaches from some of these values to where they come next.
func wide(r *rand.Rand) (api.Batch, []api.Record) {
	const values = 8
	b := api.Batch{Count: api.MaxRecords}
	var drop []api.Record
	all := make([]string, values)
	for i := range all {
		all[i] = noise(r, 3900)
	}
	for i := range api.MaxRecords {
		b.Records = append(b.Records, api.Record{Offset: i, Key: strconv.Itoa(i), Value: all[i%values]})
		if i%(2*values) < values/2 {
			drop = append(drop, b.Records[i])
		}
	}
	return b, drop
}

// What is left of a batch may be too long by each codec, where the records that go are those that others were copied from: then the batch stays whole, and all else is done.
func TestTooLongForAnyCodec(t *testing.T) {
	b, drop := wide(rand.New(rand.NewSource(4)))
	for _, codec := range codecs {
		d := newDisk(t, api.MaxDisk)
		l := opened(t, d, 1)
		add(t, l, b, api.CodecDeflate)
		add(t, l, keyed(l.End(), "ab"), api.CodecNone)
		again(t, l, drop)
		add(t, l, keyed(l.End(), "a"), api.CodecNone)
		ahead := allBytes(t, l)
		latest, _ := compact.Latest(l, l.End())
		checkRun(t, l, l.End(), codec, 1)
		if behind := allBytes(t, l); behind[0] != ahead[0] || behind[1] == ahead[1] || !slices.Equal(behind[2:], ahead[2:]) {
			t.Error("the batch does not stay, or another does")
		}
		checkLatest(t, l, l.End(), latest)
		checkRun(t, l, l.End(), codec, 0)
	}
}

package compact_test

import (
	"math"
	"math/rand"
	"slices"
	"testing"

	"postroad/api"
	"postroad/batch"
	"postroad/compact"
	"postroad/seglog"
	"postroad/vdisk"
)

// told is all that a log tells, from an offset on.
type told struct {
	end, segments int
	bytes         []string
	records       []api.Record
	latest        [][]api.Record // below each offset from there on
}

func tell(t testing.TB, l *seglog.Log, from int) told {
	t.Helper()
	out := told{end: l.End(), segments: len(l.Segments())}
	for _, s := range allBytes(t, l) {
		if b, _, _ := batch.Head(s); b.Base+b.Count > from {
			out.bytes = append(out.bytes, s)
		}
	}
	out.records, _ = l.Read(from, math.MaxInt, math.MaxInt)
	for below := from; below <= l.End(); below++ {
		r, e := compact.Latest(l, below)
		want(t, "Latest", e, api.OK)
		out.latest = append(out.latest, r)
	}
	return out
}

func (a told) check(t testing.TB, b told) {
	t.Helper()
	if a.end != b.end || a.segments != b.segments || !slices.Equal(a.bytes, b.bytes) || !slices.Equal(a.records, b.records) {
		t.Fatal("what stands at or above the offset is another one")
	}
	for i, r := range a.latest {
		if !slices.Equal(r, b.latest[i]) {
			t.Fatal("Latest is another one", r, b.latest[i])
		}
	}
}

// checkSubset holds records to being some of others, each as it was.
func checkSubset(t testing.TB, some, all []api.Record) {
	t.Helper()
	for _, r := range some {
		if !slices.Contains(all, r) {
			t.Fatal("a record was not there", r)
		}
	}
}

// Cm2: what a Run leaves as it was, whatever it drops; and another Run drops nothing, by whatever codec.
func TestCm2Follows(t *testing.T) {
	for seed := range int64(9) {
		r := rand.New(rand.NewSource(seed))
		d := newDisk(t, 50000)
		l := someLog(t, r, d, []int{1, 100, 250}[seed%3], 25)
		for range 5 {
			below := r.Intn(l.End() + 1)
			ahead := tell(t, l, below)
			before, _ := l.Read(0, math.MaxInt, math.MaxInt)
			n, e := compact.Run(l, below, r.Intn(3))
			want(t, "Run", e, api.OK)
			behind, _ := l.Read(0, math.MaxInt, math.MaxInt)
			if len(before)-len(behind) != n {
				t.Fatal(len(before), len(behind), n)
			}
			checkSubset(t, behind, before)
			ahead.check(t, tell(t, l, below))
			was := d.Copy()
			for _, codec := range codecs {
				checkRun(t, l, below, codec, 0)
			}
			checkUntouched(t, d, was)
		}
	}
}

// Cm2: below offsets that rise, in the end as much is dropped as by one Run; and what a Run left opens as it is.
func TestCm2Rising(t *testing.T) {
	for seed := range int64(10) {
		r := rand.New(rand.NewSource(seed))
		d := newDisk(t, 50000)
		l := someLog(t, r, d, 150, 25)
		after, all := pick(t, l).compacted(l.End())
		n := 0
		for below := 0; below <= l.End(); below += 1 + r.Intn(9) {
			some, e := compact.Run(l, below, r.Intn(3))
			want(t, "Run", e, api.OK)
			n += some
			l = opened(t, d, 150)
		}
		some, e := compact.Run(l, l.End(), r.Intn(3))
		want(t, "Run", e, api.OK)
		if n+some != all {
			t.Error(n, some, all)
		}
		checkPicked(t, l, after)
	}
}

// tails are how many bytes of each file are not synced, by the names.
func tails(d *vdisk.Disk) []int {
	var out []int
	for _, name := range d.Names() {
		out = append(out, d.Size(name)-d.Synced(name))
	}
	return out
}

// Sl3: all that stood when Run swapped a segment survives, the last segment too.
func TestSl3RunSurvives(t *testing.T) {
	r := rand.New(rand.NewSource(5))
	for _, limit := range []int{1, 100, 250} {
		d := newDisk(t, 50000)
		l := someLog(t, r, d, limit, 20)
		for len(tails(d)) == 0 || slices.Max(tails(d)) == 0 {
			add(t, l, someBatch(r, l.End()), api.CodecNone)
		}
		n, e := compact.Run(l, l.End(), api.CodecLz)
		if n == 0 || e != api.OK {
			t.Fatal(n, e)
		}
		bytes, bases := allBytes(t, l), l.Segments()
		want(t, "Crash", d.Crash(nil), api.OK)
		l = opened(t, d, limit)
		if !slices.Equal(allBytes(t, l), bytes) || !slices.Equal(l.Segments(), bases) {
			t.Fatal("a crash lost something", limit)
		}
		checkRun(t, l, l.End(), api.CodecLz, 0)
	}
}

// Sl3: a Run that the disk refuses half-way: what was swapped survives, and each record that was dropped comes again.
func TestSl3RefusedHalfway(t *testing.T) {
	const room = 3000
	d := newDisk(t, room)
	l := opened(t, d, 1)
	for i, size := range []int{50, 600, 50} {
		add(t, l, large(l.End(), string(rune('a'+i)), size), api.CodecNone)
	}
	add(t, l, keyed(l.End(), "z"), api.CodecNone)
	fill(t, d, room, 300)
	checkRefused(t, l, l.End(), api.CodecNone, api.ErrDisk)
	checkOffsets(t, l, 1, 2, 3, 4, 5, 6)
	bytes := allBytes(t, l)
	want(t, "Crash", d.Crash(nil), api.OK)
	if l = opened(t, d, 1); !slices.Equal(allBytes(t, l), bytes) {
		t.Fatal("a crash lost something")
	}
}

// Sl3: a Run that drops nothing, or is refused at once, syncs nothing: of the last segment so much survives as the crash says.
func TestSl3NothingSynced(t *testing.T) {
	for _, codec := range []int{api.CodecNone, 9} {
		d := newDisk(t, 1000)
		l := written(t, d, "ab", "cd", "ef")
		compact.Run(l, 6, codec)
		want(t, "Crash", d.Crash(nil), api.OK)
		if l = opened(t, d, 1); l.End() != 4 {
			t.Error(codec, l.End())
		}
	}
}

// walk is a log to which much is done, and what it had when all of it was last sure to survive.
type walk struct {
	t    testing.TB
	r    *rand.Rand
	d    *vdisk.Disk
	l    *seglog.Log
	sure int // batches below this offset survive
}

func (w *walk) add() {
	s := packed(w.t, someBatch(w.r, w.l.End()), w.r.Intn(3))
	switch e := w.l.Append(s); e {
	case api.OK:
		bases := w.l.Segments()
		w.sure = max(w.sure, bases[len(bases)-1])
	case api.ErrDisk, api.ErrFull:
		w.cut()
	default:
		w.t.Fatal(e)
	}
}

func (w *walk) cut() {
	p := pick(w.t, w.l)
	if len(p.batches) == 0 {
		return
	}
	w.sure = p.batches[w.r.Intn(len(p.batches))].Base
	want(w.t, "Cut", w.l.Cut(w.sure), api.OK)
}

func (w *walk) run() {
	below := w.r.Intn(w.l.End() + 1)
	was := pick(w.t, w.l)
	after, all := was.compacted(below)
	latest := was.latest(below)
	switch n, e := compact.Run(w.l, below, w.r.Intn(3)); {
	case e == api.OK && n == all:
		checkPicked(w.t, w.l, after)
	case e == api.ErrDisk && n == 0:
		w.checkDoneAhead(was, after)
	default:
		w.t.Fatal(n, e, "want", all)
	}
	checkLatest(w.t, w.l, below, latest)
	if len(pick(w.t, w.l).records()) < len(was.records()) {
		w.sure = w.l.End() // a segment was swapped
	}
}

// checkDoneAhead holds a log to having some of its first segments as they are to be, and all behind as they were.
func (w *walk) checkDoneAhead(was, after picked) {
	w.t.Helper()
	got := pick(w.t, w.l)
	if !slices.Equal(got.bases, was.bases) || len(got.batches) != len(was.batches) {
		w.t.Fatal(got.bases, was.bases)
	}
	undone := len(got.batches)
	for i, b := range got.batches {
		if !sameBatch(b, after.batches[i]) {
			undone = i
			break
		}
	}
	for i, b := range got.batches[undone:] {
		if !sameBatch(b, was.batches[undone+i]) {
			w.t.Fatal("a batch is neither as it was nor as it is to be", b)
		}
	}
}

func (w *walk) crash() {
	was := allBytes(w.t, w.l)
	keep := make([]int, w.r.Intn(20))
	for i := range keep {
		keep[i] = w.r.Intn(150) - 30
	}
	want(w.t, "Crash", w.d.Crash(keep), api.OK)
	w.l = opened(w.t, w.d, 1+w.r.Intn(300))
	now := allBytes(w.t, w.l)
	if len(now) > len(was) || !slices.Equal(now, was[:len(now)]) || w.l.End() < w.sure {
		w.t.Fatal(len(now), len(was), w.l.End(), w.sure)
	}
	w.sure = w.l.End()
}

func (w *walk) step() {
	switch w.r.Intn(12) {
	case 0:
		w.crash()
	case 1:
		w.cut()
	case 2, 3, 4:
		w.run()
	default:
		w.add()
	}
}

// Cm1, Cm2, Sl3: much of all kinds, on disks with much room and with little.
func TestWalks(t *testing.T) {
	for seed := range int64(30) {
		w := &walk{t: t, r: rand.New(rand.NewSource(seed)), d: newDisk(t, []int{20000, 1000, 2500}[seed%3])}
		w.l = opened(t, w.d, 1+w.r.Intn(300))
		for range 120 {
			w.step()
		}
	}
}

package compact_test

import (
	"math"
	"math/rand"
	"reflect"
	"slices"
	"strings"
	"testing"

	"postroad/api"
	"postroad/batch"
	"postroad/compact"
	"postroad/seglog"
	"postroad/vdisk"
)

// Where the codec's number stands in a batch's bytes.
const codecAt = 10 + 8 + 2 + 4 + 4 + 4

// picked are all batches of a log, unpacked, and the bases of its segments.
type picked struct {
	bases   []int
	batches []api.Batch
}

func pick(t testing.TB, l *seglog.Log) picked {
	t.Helper()
	var out picked
	for _, s := range allBytes(t, l) {
		b, n, e := batch.Of(s)
		if n != len(s) || e != api.OK {
			t.Fatal(n, len(s), e)
		}
		out.batches = append(out.batches, b)
	}
	out.bases = l.Segments()
	return out
}

func allBytes(t testing.TB, l *seglog.Log) []string {
	t.Helper()
	all, e := l.Batches(0)
	want(t, "Batches", e, api.OK)
	return all
}

func (p picked) records() []api.Record {
	var out []api.Record
	for _, b := range p.batches {
		out = append(out, b.Records...)
	}
	return out
}

// comesAgain is the chapter's words: the key of a record has one with a higher offset, below below.
func (p picked) comesAgain(r api.Record, below int) bool {
	return slices.ContainsFunc(p.records(), func(o api.Record) bool {
		return o.Key == r.Key && o.Offset > r.Offset && o.Offset < below
	})
}

func (p picked) latest(below int) []api.Record {
	var out []api.Record
	for _, r := range p.records() {
		if r.Offset < below && !p.comesAgain(r, below) {
			out = append(out, r)
		}
	}
	return out
}

// closedEnd is the end of the last closed segment that ends at or below an offset.
func (p picked) closedEnd(below int) int {
	end := 0
	for _, base := range p.bases[1:] {
		if base <= below {
			end = base
		}
	}
	return end
}

// compacted is what Run leaves, and how many records it drops.
func (p picked) compacted(below int) (picked, int) {
	out := picked{bases: p.bases}
	dropped := 0
	for _, b := range p.batches {
		var kept []api.Record
		for _, r := range b.Records {
			if b.Base < p.closedEnd(below) && p.comesAgain(r, below) {
				dropped++
			} else {
				kept = append(kept, r)
			}
		}
		b.Records = kept
		out.batches = append(out.batches, b)
	}
	return out, dropped
}

func checkPicked(t testing.TB, l *seglog.Log, p picked) {
	t.Helper()
	if !slices.Equal(l.Segments(), p.bases) {
		t.Fatal(l.Segments(), "want", p.bases)
	}
	got := pick(t, l)
	if len(got.batches) != len(p.batches) {
		t.Fatal(len(got.batches), "batches, want", len(p.batches))
	}
	for i, b := range got.batches {
		if !sameBatch(b, p.batches[i]) {
			t.Fatalf("batch %d: %v, want %v", i, b, p.batches[i])
		}
	}
}

func sameBatch(a, b api.Batch) bool {
	same := slices.Equal(a.Records, b.Records)
	a.Records, b.Records = nil, nil
	return same && reflect.DeepEqual(a, b)
}

func checkLatest(t testing.TB, l *seglog.Log, below int, all []api.Record) {
	t.Helper()
	if got, e := compact.Latest(l, below); !slices.Equal(got, all) || e != api.OK {
		t.Fatalf("Latest(%d): %v, %d, want %v", below, got, e, all)
	}
}

func checkRun(t testing.TB, l *seglog.Log, below, codec, n int) {
	t.Helper()
	if got, e := compact.Run(l, below, codec); got != n || e != api.OK {
		t.Fatalf("Run(%d, %d): %d, %d, want %d", below, codec, got, e, n)
	}
}

func checkRefused(t testing.TB, l *seglog.Log, below, codec int, e api.Errno) {
	t.Helper()
	if got, f := compact.Run(l, below, codec); got != 0 || f != e {
		t.Fatalf("Run(%d, %d): %d, %d, want 0, %d", below, codec, got, f, e)
	}
}

// checkWhole lets a log be compacted, and holds all that the chapter says of it against the model.
func checkWhole(t testing.TB, l *seglog.Log, below, codec int) {
	t.Helper()
	was, bytes := pick(t, l), allBytes(t, l)
	after, dropped := was.compacted(below)
	checkLatest(t, l, below, was.latest(below))
	checkRun(t, l, below, codec, dropped)
	checkPicked(t, l, after)
	for i, s := range allBytes(t, l) {
		if lost := len(after.batches[i].Records) < len(was.batches[i].Records); !lost && s != bytes[i] {
			t.Fatal("a batch that lost no record has other bytes", i)
		} else if lost && int(s[codecAt]) != codec {
			t.Fatal("a batch is packed by another codec", i, s[codecAt])
		}
	}
	checkLatest(t, l, below, was.latest(below))
}

// keyed is a batch whose records have keys of a letter each; a blank is an offset without a record, and a capital letter a record that is gone.
func keyed(base int, keys string) api.Batch {
	b := api.Batch{Base: base, Count: len(keys), View: base % 5, Producer: base % 7, Seq: base}
	for i, k := range []byte(keys) {
		r := api.Record{Offset: base + i, Key: strings.ToLower(string(k))}
		switch {
		case k == ' ':
			continue
		case r.Key == string(k):
			r.Value = "v" + string(k)
		default:
			r.Gone = true
		}
		b.Records = append(b.Records, r)
	}
	return b
}

func packed(t testing.TB, b api.Batch, codec int) string {
	t.Helper()
	s, e := batch.Bytes(b, codec)
	if e != api.OK {
		t.Fatal(b.Base, b.Count, len(b.Records), e)
	}
	return s
}

func add(t testing.TB, l *seglog.Log, b api.Batch, codec int) {
	t.Helper()
	want(t, "Append", l.Append(packed(t, b, codec)), api.OK)
}

// written is a log of batches whose keys are told by letters; there is one segment a batch.
func written(t testing.TB, d *vdisk.Disk, batches ...string) *seglog.Log {
	t.Helper()
	l := opened(t, d, 1)
	for i, keys := range batches {
		add(t, l, keyed(l.End(), keys), i%3)
	}
	return l
}

// someBatch is a batch at a base, with some of few keys.
func someBatch(r *rand.Rand, base int) api.Batch {
	b := api.Batch{Base: base, Count: 1 + r.Intn(6), View: r.Intn(9), Producer: r.Intn(9), Seq: r.Intn(99)}
	keys := []string{"", "a", "b", "c", "key", "\x00\xff", strings.Repeat("k", api.MaxKey), "z"}
	for i := range b.Count {
		if r.Intn(4) == 0 {
			continue
		}
		one := api.Record{Offset: base + i, Key: keys[r.Intn(len(keys))], Gone: r.Intn(5) == 0}
		if !one.Gone {
			one.Value = noise(r, r.Intn(30))
		}
		b.Records = append(b.Records, one)
	}
	return b
}

// someLog is a log of so many batches.
func someLog(t testing.TB, r *rand.Rand, d *vdisk.Disk, limit, n int) *seglog.Log {
	t.Helper()
	l := opened(t, d, limit)
	for range n {
		add(t, l, someBatch(r, l.End()), r.Intn(3))
	}
	return l
}

// noise are bytes that cannot be packed.
func noise(r *rand.Rand, n int) string {
	out := make([]byte, n)
	r.Read(out)
	return string(out)
}

func newDisk(t testing.TB, room int) *vdisk.Disk {
	t.Helper()
	d, e := vdisk.New(room)
	want(t, "New", e, api.OK)
	return d
}

func opened(t testing.TB, d *vdisk.Disk, limit int) *seglog.Log {
	t.Helper()
	l, e := seglog.Open(d, limit)
	want(t, "Open", e, api.OK)
	return l
}

func want(t testing.TB, what string, got, e api.Errno) {
	t.Helper()
	if got != e {
		t.Fatalf("%s: %d, want %d", what, got, e)
	}
}

// picture is all that a disk has.
func picture(d *vdisk.Disk) []any {
	var out []any
	for _, name := range d.Names() {
		s, _ := d.Read(name, 0, d.Size(name))
		out = append(out, name, s, d.Synced(name))
	}
	return out
}

// checkUntouched holds a disk against a copy that was made of it.
func checkUntouched(t testing.TB, d, was *vdisk.Disk) {
	t.Helper()
	if !reflect.DeepEqual(picture(d), picture(was)) {
		t.Fatal("the disk was changed")
	}
}

// offsetsOf are the offsets of all records of a log.
func offsetsOf(t testing.TB, l *seglog.Log) []int {
	t.Helper()
	all, e := l.Read(0, math.MaxInt, math.MaxInt)
	want(t, "Read", e, api.OK)
	var out []int
	for _, r := range all {
		out = append(out, r.Offset)
	}
	return out
}

func checkOffsets(t testing.TB, l *seglog.Log, offsets ...int) {
	t.Helper()
	if got := offsetsOf(t, l); !slices.Equal(got, offsets) {
		t.Fatal(got, "want", offsets)
	}
}

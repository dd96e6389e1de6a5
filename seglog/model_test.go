package seglog_test

import (
	"math"
	"math/rand"
	"reflect"
	"slices"
	"strings"
	"testing"

	"postroad/api"
	"postroad/batch"
	"postroad/seglog"
	"postroad/vdisk"
)

// kept is a batch of the model.
type kept struct {
	base, count int
	bytes       string
}

func (k kept) end() int { return k.base + k.count }

// run is a segment of the model.
type run struct {
	base    int
	batches []kept
}

func (r run) size() int {
	n := 0
	for _, k := range r.batches {
		n += len(k.bytes)
	}
	return n
}

func (r run) end() int {
	if len(r.batches) == 0 {
		return r.base
	}
	return r.batches[len(r.batches)-1].end()
}

// model is the chapter's words: segments in a list, and how many batches are sure to survive a crash.
type model struct {
	limit int
	runs  []run
	sure  int
}

func newModel(limit int) *model { return &model{limit: limit, runs: []run{{}}} }

// copy is a model as this one is; neither knows of the other from then on.
func (m *model) copy() *model {
	c := *m
	c.runs = slices.Clone(m.runs)
	for i := range c.runs {
		c.runs[i].batches = slices.Clone(c.runs[i].batches)
	}
	return &c
}

func (m *model) last() *run { return &m.runs[len(m.runs)-1] }

func (m *model) end() int { return m.last().end() }

// all are the batches of all segments.
func (m *model) all() []kept {
	var out []kept
	for _, r := range m.runs {
		out = append(out, r.batches...)
	}
	return out
}

func (m *model) segments() []int {
	var out []int
	for _, r := range m.runs {
		out = append(out, r.base)
	}
	return out
}

// rolls tells whether the next batch begins another segment.
func (m *model) rolls() bool { return m.last().size() >= m.limit }

func (m *model) append(k kept) {
	if m.rolls() {
		m.sync()
		m.runs = append(m.runs, run{base: k.base})
	}
	m.last().batches = append(m.last().batches, k)
}

func (m *model) sync() { m.sure = len(m.all()) }

// begins tells whether an offset is a batch's base, or the end.
func (m *model) begins(offset int) bool {
	return offset == m.end() || slices.ContainsFunc(m.all(), func(k kept) bool { return k.base == offset })
}

// keepBelow drops what stands at an offset or behind it.
func (m *model) keepBelow(offset int) {
	var runs []run
	for _, r := range m.runs {
		if r.base > offset {
			break
		}
		at := slices.IndexFunc(r.batches, func(k kept) bool { return k.base >= offset })
		if at >= 0 {
			r.batches = r.batches[:at:at]
		}
		runs = append(runs, r)
	}
	m.runs = runs
}

func (m *model) cut(offset int) api.Errno {
	if !m.begins(offset) {
		return api.ErrNone
	}
	m.keepBelow(offset)
	m.sync()
	return api.OK
}

func (m *model) batch(offset int) (string, api.Errno) {
	for _, k := range m.all() {
		if k.base <= offset && offset < k.end() {
			return k.bytes, api.OK
		}
	}
	return "", api.ErrNone
}

func (m *model) batches(offset int) ([]string, api.Errno) {
	if !m.begins(offset) {
		return nil, api.ErrNone
	}
	var out []string
	for _, k := range m.all() {
		if k.base >= offset {
			out = append(out, k.bytes)
		}
	}
	return out, api.OK
}

func (m *model) read(offset, below, most int) ([]api.Record, api.Errno) {
	if offset < 0 || below < 0 || most < 0 {
		return nil, api.ErrArg
	}
	var out []api.Record
	for _, k := range m.all() {
		b, _, _ := batch.Of(k.bytes)
		for _, r := range b.Records {
			if r.Offset >= offset && r.Offset < below {
				out = append(out, r)
			}
		}
	}
	return out[:min(most, len(out))], api.OK
}

// closed is the number of the closed segment of a base; -1: there is none.
func (m *model) closed(base int) int {
	return slices.IndexFunc(m.runs[:len(m.runs)-1], func(r run) bool { return r.base == base })
}

// swap lets a closed segment have batches that follow one another from its base to its end.
func (m *model) swap(base int, l []kept) {
	m.runs[m.closed(base)].batches = slices.Clone(l)
	m.sync()
}

// plain is a batch with a record at its base, that has a value.
func plain(base, count int, value string) api.Batch {
	return api.Batch{Base: base, Count: count, Seq: base & 0xffff, Records: []api.Record{{Offset: base, Key: "k", Value: value}}}
}

// packed are the bytes of a batch.
func packed(t testing.TB, b api.Batch, codec int) kept {
	t.Helper()
	s, e := batch.Bytes(b, codec)
	if e != api.OK {
		t.Fatal(b.Base, b.Count, e)
	}
	return kept{b.Base, b.Count, s}
}

// bare are the bytes of a batch without records: 39 of them.
func bare(t testing.TB, base, count int) kept {
	t.Helper()
	return packed(t, api.Batch{Base: base, Count: count}, api.CodecNone)
}

// row are batches that take so many offsets, one behind the other.
func row(t testing.TB, base int, counts ...int) []kept {
	t.Helper()
	var out []kept
	for i, n := range counts {
		out = append(out, packed(t, plain(base, n, strings.Repeat("v", i)), i%3))
		base += n
	}
	return out
}

// someKept is a batch at a base.
func someKept(t testing.TB, r *rand.Rand, base, count int) kept {
	t.Helper()
	b := api.Batch{Base: base, Count: count, View: r.Intn(9), Producer: r.Intn(9), Seq: r.Intn(99)}
	for i := range count {
		if r.Intn(3) > 0 && len(b.Records) < 5 {
			gone := r.Intn(4) == 0
			value := noise(r, r.Intn([]int{10, 10, 300}[r.Intn(3)]))
			if gone {
				value = ""
			}
			b.Records = append(b.Records, api.Record{Offset: base + i, Key: string(rune('a' + r.Intn(3))), Value: value, Gone: gone})
		}
	}
	return packed(t, b, r.Intn(3))
}

// noise are bytes that cannot be packed.
func noise(r *rand.Rand, n int) string {
	out := make([]byte, n)
	r.Read(out)
	return string(out)
}

// others are batches from a base to an end, cut anew.
func others(t testing.TB, r *rand.Rand, base, end int) []kept {
	t.Helper()
	var out []kept
	for base < end {
		k := someKept(t, r, base, 1+r.Intn(min(end-base, api.MaxRecords)))
		out = append(out, k)
		base = k.end()
	}
	return out
}

// texts are the bytes of batches.
func texts(l []kept) []string {
	var out []string
	for _, k := range l {
		out = append(out, k.bytes)
	}
	return out
}

func newDisk(t testing.TB, room int) *vdisk.Disk {
	t.Helper()
	d, e := vdisk.New(room)
	if e != api.OK {
		t.Fatal(e)
	}
	return d
}

func opened(t testing.TB, d *vdisk.Disk, limit int) *seglog.Log {
	t.Helper()
	l, e := seglog.Open(d, limit)
	if l == nil || e != api.OK {
		t.Fatalf("Open: %t, %d", l != nil, e)
	}
	return l
}

// filled is a log to which batches were appended.
func filled(t testing.TB, d *vdisk.Disk, limit int, l []kept) (*seglog.Log, *model) {
	t.Helper()
	log, m := opened(t, d, limit), newModel(limit)
	for _, k := range l {
		want(t, "Append", log.Append(k.bytes), api.OK)
		m.append(k)
	}
	return log, m
}

func want(t testing.TB, what string, got, e api.Errno) {
	t.Helper()
	if got != e {
		t.Fatalf("%s: %d, want %d", what, got, e)
	}
}

func checkBatch(t testing.TB, l *seglog.Log, m *model, offset int) {
	t.Helper()
	b, e := m.batch(offset)
	if got, f := l.Batch(offset); got != b || f != e {
		t.Fatalf("Batch(%d): %d bytes, %d, want %d, %d", offset, len(got), f, len(b), e)
	}
}

func checkBatches(t testing.TB, l *seglog.Log, m *model, offset int) {
	t.Helper()
	all, e := m.batches(offset)
	if got, f := l.Batches(offset); !slices.Equal(got, all) || f != e {
		t.Fatalf("Batches(%d): %d, %d, want %d, %d", offset, len(got), f, len(all), e)
	}
}

func checkRead(t testing.TB, l *seglog.Log, m *model, offset, below, most int) {
	t.Helper()
	all, e := m.read(offset, below, most)
	if got, f := l.Read(offset, below, most); !slices.Equal(got, all) || f != e {
		t.Fatalf("Read(%d, %d, %d): %d, %d, want %d, %d", offset, below, most, len(got), f, len(all), e)
	}
}

// checkShape holds the segments, the end and all batches against the model.
func checkShape(t testing.TB, l *seglog.Log, m *model) {
	t.Helper()
	if l.End() != m.end() || !slices.Equal(l.Segments(), m.segments()) {
		t.Fatalf("End %d, Segments %v, want %d, %v", l.End(), l.Segments(), m.end(), m.segments())
	}
	checkBatches(t, l, m, 0)
}

// checkSame holds all that a log tells against the model.
func checkSame(t testing.TB, l *seglog.Log, m *model) {
	t.Helper()
	checkShape(t, l, m)
	for _, offset := range []int{-1, m.end(), m.end() + 1} {
		checkBatch(t, l, m, offset)
		checkBatches(t, l, m, offset)
	}
	for _, k := range m.all() {
		for _, offset := range []int{k.base, k.base + k.count/2, k.end() - 1} {
			checkBatch(t, l, m, offset)
			checkBatches(t, l, m, offset)
		}
	}
	checkRead(t, l, m, 0, math.MaxInt, math.MaxInt)
	checkRead(t, l, m, m.end()/3, m.end()*2/3, 5)
}

// reopened is the log of a disk behind a crash, which has the first batches of those that it had, all that are sure among them; the model is as the log from then on.
func reopened(t testing.TB, d *vdisk.Disk, limit int, m *model) *seglog.Log {
	t.Helper()
	l := opened(t, d, limit)
	all, e := l.Batches(0)
	want(t, "Batches", e, api.OK)
	had := texts(m.all())
	if len(all) < m.sure || len(all) > len(had) || !slices.Equal(all, had[:len(all)]) {
		t.Fatalf("%d batches are there, %d were, %d are sure", len(all), len(had), m.sure)
	}
	if len(all) < len(had) {
		m.keepBelow(m.all()[len(all)].base)
	}
	m.limit = limit
	m.sync()
	checkShape(t, l, m)
	return l
}

// openedAgain is the log of a disk whose power did not go: it has all that it had.
func openedAgain(t testing.TB, d *vdisk.Disk, limit int, m *model) *seglog.Log {
	t.Helper()
	l := opened(t, d, limit)
	m.limit = limit
	checkShape(t, l, m)
	return l
}

// foreign are files of other names than the log's, and what they have.
type foreign map[string]string

// strangers are files on a disk that the log is not to touch, half of each synced.
func strangers(t testing.TB, d *vdisk.Disk) foreign {
	t.Helper()
	out := foreign{}
	for _, name := range []string{"!", "0", "manifes", "se", "Seg0", "state", "xseg0000000000000", "~seg", "MANIFEST"} {
		s := bare(t, 0, 1).bytes + name
		for _, e := range []api.Errno{d.Append(name, s[:len(s)/2]), d.Sync(name), d.Append(name, s[len(s)/2:])} {
			want(t, name, e, api.OK)
		}
		out[name] = s
	}
	return out
}

// check holds the files of a disk against those that the log is not to touch; all others are to have the log's names.
func (f foreign) check(t testing.TB, d *vdisk.Disk) {
	t.Helper()
	left := len(f)
	for _, name := range d.Names() {
		s, is := f[name]
		if !is {
			if !strings.HasPrefix(name, "seg") && !strings.HasPrefix(name, "manifest") {
				t.Fatalf("the log has a file %q", name)
			}
			continue
		}
		left--
		if got, e := d.Read(name, 0, d.Size(name)); got != s || e != api.OK || d.Synced(name) != len(s)/2 {
			t.Fatalf("%q has %q, %d synced, %d", name, got, d.Synced(name), e)
		}
	}
	if left != 0 {
		t.Fatalf("%d files of others are gone", left)
	}
}

// picture is all that a disk has.
func picture(d *vdisk.Disk) []any {
	var out []any
	for _, name := range d.Names() {
		s, _ := d.Read(name, 0, d.Size(name))
		out = append(out, name, s, d.Synced(name))
	}
	return out
}

// checkUntouched holds a disk against a copy that was made of it.
func checkUntouched(t testing.TB, d, was *vdisk.Disk) {
	t.Helper()
	if !reflect.DeepEqual(picture(d), picture(was)) {
		t.Fatal("the disk was changed")
	}
}

package seglog_test

import (
	"math"
	"math/rand"
	"testing"

	"postroad/api"
	"postroad/seglog"
	"postroad/vdisk"
)

// tails are how many bytes of each file are not synced, by the names.
func tails(d *vdisk.Disk) []int {
	var out []int
	for _, name := range d.Names() {
		out = append(out, d.Size(name)-d.Synced(name))
	}
	return out
}

// checkCrashes lets the power go at this time, with each number of bytes that survive of each tail.
func checkCrashes(t *testing.T, d *vdisk.Disk, m *model) {
	t.Helper()
	keeps := [][]int{nil, {math.MaxInt, -1, math.MaxInt}, {-1, math.MaxInt, math.MinInt, math.MaxInt}}
	for i, tail := range tails(d) {
		for n := range tail + 2 {
			keep := make([]int, i+1)
			keep[i] = n
			keeps = append(keeps, keep)
		}
	}
	for _, keep := range keeps {
		d, m := d.Copy(), m.copy()
		want(t, "Crash", d.Crash(keep), api.OK)
		l := reopened(t, d, m.limit, m)
		// What was cut off leaves no trace: the log goes on, and is opened once more.
		for _, k := range row(t, m.end(), 1, 2) {
			want(t, "Append", l.Append(k.bytes), api.OK)
			m.append(k)
		}
		checkShape(t, l, m)
		openedAgain(t, d, m.limit, m)
	}
}

// Sl3: the power goes behind each call, with each number of bytes that survive.
func TestSl3Crash(t *testing.T) {
	r := rand.New(rand.NewSource(7))
	for _, limit := range []int{1, 60, 130, 1000} {
		d := newDisk(t, 10000)
		l, m := filled(t, d, limit, nil)
		checkCrashes(t, d, m)
		add := func(n int) {
			t.Helper()
			for range n {
				k := someKept(t, r, m.end(), 1+r.Intn(3))
				want(t, "Append", l.Append(k.bytes), api.OK)
				m.append(k)
				checkCrashes(t, d, m)
			}
		}
		add(3)
		want(t, "Sync", l.Sync(), api.OK)
		m.sync()
		checkCrashes(t, d, m)
		add(4)
		if len(m.runs) > 1 {
			of := m.runs[len(m.runs)-2]
			swapped := others(t, r, of.base, of.end())
			want(t, "Swap", l.Swap(of.base, texts(swapped)), api.OK)
			m.swap(of.base, swapped)
			checkCrashes(t, d, m)
		}
		add(2)
		want(t, "Cut", l.Cut(m.end()), m.cut(m.end()))
		checkCrashes(t, d, m)
		add(2)
		at := m.all()[len(m.all())-4].base
		want(t, "Cut", l.Cut(at), m.cut(at))
		checkCrashes(t, d, m)
		add(3)
		want(t, "Cut", l.Cut(0), m.cut(0))
		checkCrashes(t, d, m)
		add(2)
	}
}

// Sl3: what is sure, one kind after the other: each of these survives, and nothing else does where nothing of a tail survives.
func TestSl3Sure(t *testing.T) {
	all := row(t, 0, 1, 1, 1, 1, 1)
	nothing := func(l *seglog.Log) api.Errno { return api.OK }
	sync := (*seglog.Log).Sync
	cut := func(offset int) func(l *seglog.Log) api.Errno {
		return func(l *seglog.Log) api.Errno { return l.Cut(offset) }
	}
	swap := func(batches []string) func(l *seglog.Log) api.Errno {
		return func(l *seglog.Log) api.Errno { return l.Swap(0, batches) }
	}
	for name, c := range map[string]struct {
		limit, end int
		do         func(l *seglog.Log) api.Errno
		e          api.Errno
	}{
		"nothing":          {1000, 0, nothing, api.OK},
		"closed":           {1, 4, nothing, api.OK},
		"synced":           {1000, 5, sync, api.OK},
		"synced, closed":   {1, 5, sync, api.OK},
		"cut at the end":   {1000, 5, cut(5), api.OK},
		"cut":              {1000, 4, cut(4), api.OK},
		"cut, closed":      {1, 2, cut(2), api.OK},
		"cut, refused":     {1000, 0, cut(9), api.ErrNone},
		"swapped":          {100, 5, swap(texts(row(t, 0, 1, 1, 1))), api.OK},
		"swapped, refused": {100, 3, swap(nil), api.ErrBatch},
	} {
		d := newDisk(t, 1000)
		l, _ := filled(t, d, c.limit, all)
		want(t, name, c.do(l), c.e)
		want(t, "Crash", d.Crash(nil), api.OK)
		if l := opened(t, d, c.limit); l.End() != c.end {
			t.Errorf("%s: %d, want %d (%v)", name, l.End(), c.end, l.Segments())
		}
	}
}

// Sl3: a crash loses the last segment's batches; what comes in their place is what is there from then on.
func TestSl3InTheirPlace(t *testing.T) {
	d := newDisk(t, 10000)
	_, m := filled(t, d, 60, row(t, 0, 2, 1, 3, 1, 2))
	for i := range 5 {
		want(t, "Crash", d.Crash([]int{0, 17, 45, 50, 20, 3}), api.OK)
		l := reopened(t, d, 60, m)
		k := packed(t, plain(m.end(), 1+i, "another one"), api.CodecNone)
		want(t, "Append", l.Append(k.bytes), api.OK)
		m.append(k)
		checkSame(t, l, m)
	}
}

// Files of segments that do not follow are none of the log's: their batches are not met when it comes to their bases.
func TestSl3NotFollowing(t *testing.T) {
	for _, lost := range []int{0, 1, 2} {
		d := newDisk(t, 10000)
		all := strangers(t, d)
		l, m := filled(t, d, 1, row(t, 0, 1, 1, 1, 1))
		var names []string
		for _, name := range d.Names() {
			if _, is := all[name]; !is {
				names = append(names, name)
			}
		}
		if len(names) != 4 {
			t.Fatal(names)
		}
		want(t, "Remove", d.Remove(names[lost]), api.OK)
		l = opened(t, d, 1)
		m.keepBelow(lost)
		if l.End() != lost {
			t.Fatal(l.End(), lost)
		}
		checkBatches(t, l, m, 0)
		for i := range 5 {
			k := packed(t, plain(m.end(), 1, "another one"), api.CodecNone)
			want(t, "Append", l.Append(k.bytes), api.OK)
			m.append(k)
			if i > 0 {
				checkBatches(t, l, m, 0)
			}
		}
		all.check(t, d)
	}
}

// walk does steps that numbers tell, on a log and on the model, and holds one against the other.
type walk struct {
	t     testing.TB
	r     *rand.Rand
	d     *vdisk.Disk
	limit int
	l     *seglog.Log
	m     *model
}

func (w *walk) append(wrong bool) {
	k := someKept(w.t, w.r, w.m.end(), 1+w.r.Intn([]int{1, 3, 256}[w.r.Intn(3)]))
	if wrong {
		want(w.t, "Append", w.l.Append(k.bytes[1:]), api.ErrBatch)
		want(w.t, "Append", w.l.Append(bare(w.t, w.m.end()+1, 1).bytes), api.ErrOrder)
		return
	}
	switch e := w.l.Append(k.bytes); e {
	case api.OK:
		w.m.append(k)
	case api.ErrDisk, api.ErrFull:
		w.refusedByDisk(k)
	default:
		w.t.Fatal("Append", e)
	}
}

// refusedByDisk holds a refusal to what the disk would say of a file of its own; another segment may have begun.
func (w *walk) refusedByDisk(k kept) {
	c := w.d.Copy()
	if c.Append("another", k.bytes) == api.OK {
		w.t.Fatal("Append is refused, and there is room")
	}
	if len(w.l.Segments()) > len(w.m.runs) {
		w.m.sync()
		w.m.runs = append(w.m.runs, run{base: w.m.end()})
	}
}

func (w *walk) cut() {
	offset := w.r.Intn(w.m.end()+3) - 1
	if all := w.m.all(); len(all) > 0 && w.r.Intn(3) > 0 {
		offset = all[w.r.Intn(len(all))].base
	}
	want(w.t, "Cut", w.l.Cut(offset), w.m.cut(offset))
}

func (w *walk) swap() {
	of := w.m.runs[w.r.Intn(len(w.m.runs))]
	l := others(w.t, w.r, of.base, of.end())
	if w.m.closed(of.base) < 0 {
		want(w.t, "Swap", w.l.Swap(of.base, texts(l)), api.ErrNone)
		return
	}
	switch e := w.l.Swap(of.base, texts(l)); e {
	case api.OK:
		w.m.swap(of.base, l)
	case api.ErrDisk, api.ErrFull:
	default:
		w.t.Fatal("Swap", e)
	}
}

// other lets a file of another grow, or go.
func (w *walk) other() {
	if w.d.Remove("state") != api.OK {
		w.d.Append("state", noise(w.r, w.r.Intn(200)))
	}
}

func (w *walk) crash() {
	keep := make([]int, w.r.Intn(20))
	for i := range keep {
		keep[i] = w.r.Intn(300) - 50
	}
	want(w.t, "Crash", w.d.Crash(keep), api.OK)
	w.limit = 1 + w.r.Intn(500)
	w.l = reopened(w.t, w.d, w.limit, w.m)
}

func (w *walk) read() {
	end := w.m.end()
	checkRead(w.t, w.l, w.m, w.r.Intn(end+2), w.r.Intn(end+2), w.r.Intn(20))
	checkBatch(w.t, w.l, w.m, w.r.Intn(end+3)-1)
	checkBatches(w.t, w.l, w.m, w.r.Intn(end+3)-1)
}

func (w *walk) step(n int) {
	switch n % 16 {
	case 0:
		w.crash()
	case 1:
		w.cut()
	case 2, 3:
		w.swap()
	case 4:
		want(w.t, "Sync", w.l.Sync(), api.OK)
		w.m.sync()
	case 5:
		w.other()
	case 6:
		w.append(true)
	default:
		w.append(false)
	}
	w.read()
	checkShape(w.t, w.l, w.m)
}

func newWalk(t testing.TB, seed int64, room int) *walk {
	w := &walk{t: t, r: rand.New(rand.NewSource(seed)), d: newDisk(t, room)}
	w.limit = 1 + w.r.Intn(500)
	w.l, w.m = filled(t, w.d, w.limit, nil)
	return w
}

// Sl1 to Sl4: many steps of all kinds, on disks with much room and with little.
func TestWalks(t *testing.T) {
	for seed := range int64(24) {
		w := newWalk(t, seed, []int{api.MaxDisk, 1000, 3000, 10000}[seed%4])
		for range 200 {
			w.step(w.r.Intn(16))
		}
		checkSame(t, w.l, w.m)
	}
}

// FuzzSteps: whatever steps there are, the log is as the chapter says.
func FuzzSteps(f *testing.F) {
	f.Add(int64(1), []byte{7, 7, 7, 0, 2, 7, 1, 7, 0})
	f.Fuzz(func(t *testing.T, seed int64, steps []byte) {
		w := newWalk(t, seed, 4000)
		for _, n := range steps[:min(len(steps), 300)] {
			w.step(int(n))
		}
		checkSame(t, w.l, w.m)
	})
}

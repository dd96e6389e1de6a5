package compact_test

import (
	"math"
	"math/rand"
	"reflect"
	"slices"
	"testing"
	"unsafe"

	"postroad/api"
	"postroad/compact"
	"postroad/seglog"
	"postroad/vdisk"
)

// R1: logs that Open did not give.
func TestR1NoLog(t *testing.T) {
	d := newDisk(t, 1000)
	l := written(t, d, "aba", "a")
	was := d.Copy()
	byValue := *l
	for _, no := range []*seglog.Log{nil, {}, &byValue} {
		for _, below := range []int{math.MinInt, -1, 0, 1, 3, 4, math.MaxInt} {
			if r, e := compact.Latest(no, below); len(r) != 0 || e != api.ErrArg {
				t.Error(below, r, e)
			}
			for _, codec := range []int{-1, 0, 1, 2, 3} {
				checkRefused(t, no, below, codec, api.ErrArg)
			}
		}
	}
	checkUntouched(t, d, was)
	checkRun(t, l, 4, api.CodecNone, 2)
}

// R1: each call ends at all numbers.
func TestR1Ends(t *testing.T) {
	numbers := []int{math.MinInt, math.MinInt + 1, -1, 0, 1, 2, 3, 4, 5, api.MaxOffset - 1, api.MaxOffset, math.MaxInt - 1, math.MaxInt}
	for _, below := range numbers {
		for _, codec := range numbers {
			l := written(t, newDisk(t, 1000), "aba", "a")
			compact.Latest(l, below)
			n, e := compact.Run(l, below, codec)
			if may := below >= 0 && below <= 4 && codec >= 0 && codec <= 2; may != (e == api.OK) || !may && (n != 0 || e != api.ErrArg) {
				t.Error(below, codec, n, e)
			}
		}
	}
}

// changes are what others may do to the files of a log.
func changes(t *testing.T) []func(d *vdisk.Disk) {
	replaced := func(by func(s string) string) func(d *vdisk.Disk) {
		return func(d *vdisk.Disk) {
			name := d.Names()[0]
			s, _ := d.Read(name, 0, d.Size(name))
			d.Cut(name, 0)
			d.Append(name, by(s))
		}
	}
	other := packed(t, keyed(0, "xyz"), api.CodecNone)
	return []func(d *vdisk.Disk){
		func(d *vdisk.Disk) { d.Remove(d.Names()[0]) },
		func(d *vdisk.Disk) { d.Cut(d.Names()[0], 50) },
		func(d *vdisk.Disk) { d.Cut(d.Names()[len(d.Names())-1], 0) },
		func(d *vdisk.Disk) { d.Append(d.Names()[0], "more") },
		func(d *vdisk.Disk) { d.Crash(nil) },
		func(d *vdisk.Disk) {
			for _, name := range d.Names() {
				d.Remove(name)
			}
		},
		replaced(func(s string) string { return s[1:] + s[:1] }),
		replaced(func(s string) string { return other + s }),
		replaced(func(s string) string { return s + s }),
		func(d *vdisk.Disk) { opened(t, d, 1).Cut(0) },
		func(d *vdisk.Disk) { l := opened(t, d, 1); compact.Run(l, l.End(), api.CodecLz) },
	}
}

// R1: nothing fails, and each call ends, where another than the log changes its files; what is refused is refused by an error that the chapter names.
func TestR1OthersChange(t *testing.T) {
	errors := []api.Errno{api.OK, api.ErrArg, api.ErrNone, api.ErrBatch, api.ErrFull, api.ErrDisk}
	for i, change := range changes(t) {
		for _, limit := range []int{1, 100} {
			d := newDisk(t, 10000)
			l := opened(t, d, limit)
			for i, keys := range []string{"aba", "cd", "ab", "ca", "xa"} {
				add(t, l, keyed(l.End(), keys), i%3)
			}
			change(d)
			for below := range l.End() + 1 {
				if _, e := compact.Latest(l, below); !slices.Contains(errors, e) {
					t.Error(i, e)
				}
				if _, e := compact.Run(l, below, below%3); !slices.Contains(errors, e) {
					t.Error(i, e)
				}
			}
			again := opened(t, d, limit)
			if _, e := compact.Latest(again, again.End()); e != api.OK {
				t.Error(i, e)
			}
		}
	}
}

// R2: what is refused has changed nothing that can be told.
func TestR2Refused(t *testing.T) {
	const room = 1000
	d := newDisk(t, room)
	l := written(t, d, "aba", "a")
	fill(t, d, room, 30)
	was := d.Copy()
	for range 2 {
		checkRefused(t, l, 5, api.CodecNone, api.ErrArg)
		checkRefused(t, l, 4, 3, api.ErrArg)
		checkRefused(t, l, 4, api.CodecNone, api.ErrDisk)
		checkRefused(t, l, 5, 3, api.ErrArg)
		checkUntouched(t, d, was)
	}
	want(t, "Remove", d.Remove("other"), api.OK)
	checkRun(t, l, 4, api.CodecNone, 2)
}

// spoil changes all bytes of a text.
func spoil(s string) {
	for i := range len(s) {
		*(*byte)(unsafe.Add(unsafe.Pointer(unsafe.StringData(s)), i)) = '?'
	}
}

// R3: each answer is new memory, its spare room too.
func TestR3NewMemory(t *testing.T) {
	d := newDisk(t, 10000)
	l := someLog(t, rand.New(rand.NewSource(7)), d, 100, 12)
	was := d.Copy()
	p := pick(t, l)
	for range 3 {
		one, e := compact.Latest(l, l.End())
		want(t, "Latest", e, api.OK)
		two, _ := compact.Latest(l, l.End())
		for i := range one[:cap(one)] {
			r := &one[:cap(one)][i]
			spoil(r.Key)
			spoil(r.Value)
			*r = api.Record{Offset: -1}
		}
		if !slices.Equal(two, p.latest(l.End())) {
			t.Error("two answers share memory")
		}
		checkUntouched(t, d, was)
		checkLatest(t, l, l.End(), p.latest(l.End()))
	}
}

// R4: the same calls are answered alike, and leave the same bytes, on whichever copy of a disk; one log knows nothing of another.
func TestR4Same(t *testing.T) {
	d := newDisk(t, 20000)
	end := someLog(t, rand.New(rand.NewSource(8)), d, 100, 30).End()
	was := d.Copy()
	var first []any
	for range 10 {
		c := d.Copy()
		l := opened(t, c, 100)
		for _, below := range []int{end / 2, end} {
			latest, e := compact.Latest(l, below)
			n, f := compact.Run(l, below, api.CodecDeflate)
			first = append(first, latest, e, n, f)
		}
		first = append(first, picture(c))
		if len(first) == 18 {
			if !reflect.DeepEqual(first[:9], first[9:]) {
				t.Fatal("the same calls are answered by something else")
			}
			first = first[:9]
		}
	}
	checkUntouched(t, d, was)
}

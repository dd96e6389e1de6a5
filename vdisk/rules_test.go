package vdisk_test

import (
	"fmt"
	"math"
	"runtime"
	"slices"
	"strings"
	"testing"
	"unsafe"

	"postroad/api"
	"postroad/vdisk"
)

// checkNotGiven holds a disk that New and Copy did not give to what the chapter says of such a one.
func checkNotGiven(t *testing.T, d *vdisk.Disk) {
	t.Helper()
	for _, name := range []string{"a", "", "none"} {
		want(t, "Append", d.Append(name, ""), api.ErrArg)
		want(t, "Append", d.Append(name, "xyz"), api.ErrArg)
		want(t, "Sync", d.Sync(name), api.ErrArg)
		want(t, "Cut", d.Cut(name, 0), api.ErrArg)
		want(t, "Rename", d.Rename(name, "a"), api.ErrArg)
		want(t, "Rename", d.Rename("a", name), api.ErrArg)
		want(t, "Remove", d.Remove(name), api.ErrArg)
		if s, e := d.Read(name, 0, 0); s != "" || e != api.ErrArg {
			t.Errorf("Read: %q, %d", s, e)
		}
		if d.Size(name) != -1 || d.Synced(name) != -1 {
			t.Errorf("Size, Synced: %d, %d", d.Size(name), d.Synced(name))
		}
	}
	want(t, "Crash", d.Crash([]int{1}), api.ErrArg)
	want(t, "Crash", d.Crash(nil), api.ErrArg)
	if len(d.Names()) != 0 || d.Used() != 0 || d.Copy() != nil {
		t.Error(d.Names(), d.Used(), d.Copy())
	}
}

// Vd3, R1: disks that New and Copy did not give.
func TestR1NotGiven(t *testing.T) {
	checkNotGiven(t, nil)
	checkNotGiven(t, &vdisk.Disk{})
	checkNotGiven(t, new(vdisk.Disk))
	d := newDisk(t, 9)
	d.Append("a", "xyz")
	byValue := *d
	checkNotGiven(t, &byValue)
	checkSame(t, d, &model{9, []kept{{"a", "", "xyz"}}})
	checkSame(t, d.Copy(), &model{9, []kept{{"a", "", "xyz"}}})
}

// R1: each call ends at all arguments.
func TestR1Ends(t *testing.T) {
	numbers := []int{math.MinInt, -1, 0, 1, 3, 4, math.MaxInt}
	for _, name := range append(badNames(), "a", "b", strings.Repeat("~", 32)) {
		d := newDisk(t, 20)
		d.Append("a", "xyz")
		for _, n := range numbers {
			for _, at := range numbers {
				d.Read(name, at, n)
			}
			d.Append(name, name)
			d.Sync(name)
			d.Rename(name, "a")
			d.Crash([]int{n, n})
			d.Cut(name, n)
			d.Rename("a", name)
			d.Remove(name)
		}
	}
}

// R2: what is refused has changed nothing, and answers nothing beside the error.
func TestR2Refused(t *testing.T) {
	d := newDisk(t, 6)
	d.Append("a", "xy")
	d.Sync("a")
	d.Append("a", "z")
	m := &model{6, []kept{{"a", "xy", "z"}}}
	for what, e := range map[string]api.Errno{
		"Append": d.Append("b", "1234"),
		"Cut":    d.Cut("a", 4),
		"Below":  d.Cut("a", -1),
		"Rename": d.Rename("b", "a"),
		"To":     d.Rename("a", ""),
		"Remove": d.Remove("b"),
		"Sync":   d.Sync("b"),
	} {
		if e == api.OK {
			t.Error(what)
		}
	}
	if s, e := d.Read("a", 1, 3); s != "" || e != api.ErrArg {
		t.Errorf("%q, %d", s, e)
	}
	checkSame(t, d, m)
}

// overwritten is a text and what changes its bytes afterwards.
func overwritten(s string) (string, func()) {
	room := []byte(s)
	return unsafe.String(unsafe.SliceData(room), len(room)), func() {
		for i := range room {
			room[i] = '?'
		}
	}
}

// R3: nothing that was handed in is kept: names and bytes stay, whatever becomes of the caller's.
func TestR3NotKept(t *testing.T) {
	d := newDisk(t, 99)
	m := &model{room: 99}
	for _, c := range [][2]string{{"first", "bytes"}, {"other", "more of them"}, {"first", " and more"}} {
		name, spoilName := overwritten(c[0])
		s, spoil := overwritten(c[1])
		want(t, "Append", d.Append(name, s), m.append(c[0], c[1]))
		spoilName()
		spoil()
		checkSame(t, d, m)
	}
	from, spoilFrom := overwritten("first")
	to, spoilTo := overwritten("second")
	want(t, "Rename", d.Rename(from, to), m.rename("first", "second"))
	spoilFrom()
	spoilTo()
	checkSame(t, d, m)
	from, spoilFrom = overwritten("second")
	to, spoilTo = overwritten("other")
	want(t, "Rename over", d.Rename(from, to), m.rename("second", "other"))
	spoilFrom()
	spoilTo()
	checkSame(t, d, m)
}

// shares tells whether two texts lie in the same memory.
func shares(a, b string) bool {
	at := func(s string) uintptr { return uintptr(unsafe.Pointer(unsafe.StringData(s))) }
	return len(a) > 1 && len(b) > 1 && at(a) < at(b)+uintptr(len(b)) && at(b) < at(a)+uintptr(len(a))
}

// R3: an answer is new memory: no two answers share any, nor does one share any with what the disk or a copy keeps.
func TestR3NewMemory(t *testing.T) {
	d := newDisk(t, 99)
	d.Append("first", "bytes")
	d.Append("other", "more")
	var all []string
	for range 2 {
		for _, of := range []*vdisk.Disk{d, d.Copy()} {
			all = append(all, of.Names()...)
			s, _ := of.Read("first", 0, 5)
			all = append(all, s)
		}
	}
	for i, a := range all {
		for _, b := range all[:i] {
			if shares(a, b) {
				t.Fatalf("%q and %q share memory", a, b)
			}
		}
	}
	spoil(all)
	checkSame(t, d, &model{99, []kept{{"first", "", "bytes"}, {"other", "", "more"}}})
	names := d.Names()
	for i := range names[:cap(names)] {
		names[:cap(names)][i] = "?"
	}
	if !slices.Equal(d.Names(), []string{"first", "other"}) {
		t.Errorf("%q", d.Names())
	}
}

// spoil overwrites the bytes of answers.
func spoil(answers []string) {
	for _, s := range answers {
		for i := range s {
			*(*byte)(unsafe.Add(unsafe.Pointer(unsafe.StringData(s)), i)) = '?'
		}
	}
}

// R3: the keep list is read up to its end alone, and left as it is.
func TestR3Keep(t *testing.T) {
	d := newDisk(t, 99)
	d.Append("a", "xyz")
	d.Append("b", "xyz")
	room := []int{1, 2, 3}
	want(t, "Crash", d.Crash(room[:1]), api.OK)
	checkSame(t, d, &model{99, []kept{{"a", "x", ""}, {"b", "", ""}}})
	if !slices.Equal(room, []int{1, 2, 3}) {
		t.Error(room)
	}
}

// R4: the same calls are answered the same way, in whatever order a map is gone through.
func TestR4Again(t *testing.T) {
	answer := func() string {
		d := newDisk(t, 4000)
		for i := range 200 {
			name := fmt.Sprint("f", i*7919%200)
			d.Append(name, "synced")
			d.Sync(name)
			d.Append(name, "tail of "+name)
		}
		keep := make([]int, 200)
		for i := range keep {
			keep[i] = i % 11
		}
		c := d.Copy()
		c.Crash(keep)
		told := fmt.Sprint(d.Names(), d.Used(), c.Names(), c.Used())
		for _, name := range c.Names() {
			s, _ := c.Read(name, 0, c.Size(name))
			told += s
		}
		return told
	}
	first := answer()
	for range 20 {
		if answer() != first {
			t.Fatal("another answer")
		}
	}
}

// What is kept is no more than the files have: bytes that were cut off or lost do not stay.
func TestGoneBytesGo(t *testing.T) {
	d := newDisk(t, api.MaxDisk)
	much := strings.Repeat("x", 1<<22)
	for i := range 200 {
		name := fmt.Sprint("f", i)
		want(t, "Append", d.Append(name, much), api.OK)
		if i%2 == 0 {
			want(t, "Cut", d.Cut(name, i), api.OK)
		} else {
			want(t, "Crash", d.Crash(nil), api.OK)
		}
	}
	runtime.GC()
	var now runtime.MemStats
	runtime.ReadMemStats(&now)
	if now.HeapAlloc > 1<<27 {
		t.Errorf("%d bytes are held for %d", now.HeapAlloc, d.Used())
	}
	runtime.KeepAlive(d)
}

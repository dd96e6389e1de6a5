package vdisk_test

import (
	"fmt"
	"math"
	"math/rand"
	"slices"
	"strings"
	"testing"

	"postroad/api"
	"postroad/vdisk"
)

// badNames are names that no file can have.
func badNames() []string {
	names := []string{"", strings.Repeat("a", 33), strings.Repeat("a", 1000), "ä", "a b", " a", "a\n", "\x00", "a\xff"}
	for x := range 256 {
		if x < 33 || x > 126 {
			names = append(names, string([]byte{byte(x)}), string([]byte{'a', byte(x)}), string([]byte{byte(x), 'a'}))
		}
	}
	return names
}

// Vd1: a disk begins without files; its room is 0 to MaxDisk.
func TestVd1New(t *testing.T) {
	for _, room := range []int{-1, math.MinInt, api.MaxDisk + 1, math.MaxInt} {
		if d, e := vdisk.New(room); d != nil || e != api.ErrArg {
			t.Errorf("New(%d): %v, %d", room, d, e)
		}
	}
	for _, room := range []int{0, 1, 1000, api.MaxDisk} {
		checkSame(t, newDisk(t, room), &model{room: room})
	}
}

// Vd1: a file can have each name of 1 to MaxName bytes from 33 to 126.
func TestVd1Names(t *testing.T) {
	d := newDisk(t, 1000)
	m := &model{room: 1000}
	for x := 33; x <= 126; x++ {
		name := string([]byte{byte(x)})
		want(t, "Append", d.Append(name, name), m.append(name, name))
	}
	for n := 2; n <= 32; n++ {
		name := strings.Repeat("~", n)
		want(t, "Append", d.Append(name, "x"), m.append(name, "x"))
	}
	if len(m.files) != 126-33+1+31 {
		t.Fatal(len(m.files))
	}
	checkSame(t, d, m)
}

// Vd1, Vd2: a name that may not be is refused by each call, whatever else is wrong.
func TestVd1BadNames(t *testing.T) {
	d := newDisk(t, 5)
	d.Append("a", "xy")
	before := &model{5, []kept{{"a", "", "xy"}}}
	for _, name := range badNames() {
		what := fmt.Sprintf("%q", name)
		for _, s := range []string{"", "z", "more than the room"} {
			want(t, "Append "+what, d.Append(name, s), api.ErrArg)
		}
		want(t, "Sync "+what, d.Sync(name), api.ErrArg)
		want(t, "Remove "+what, d.Remove(name), api.ErrArg)
		for _, size := range []int{-1, 0, 1} {
			want(t, "Cut "+what, d.Cut(name, size), api.ErrArg)
			_, e := d.Read(name, size, 0)
			want(t, "Read "+what, e, api.ErrArg)
		}
		for _, other := range []string{"a", "none", name} {
			want(t, "Rename from "+what, d.Rename(name, other), api.ErrArg)
			want(t, "Rename to "+what, d.Rename(other, name), api.ErrArg)
		}
		if d.Size(name) != -1 || d.Synced(name) != -1 {
			t.Fatalf("Size, Synced %s: %d, %d", what, d.Size(name), d.Synced(name))
		}
		checkSame(t, d, before)
	}
}

// Vd1: what is appended stands behind, unsynced; there is a file from then on, also of an empty text.
func TestVd1Append(t *testing.T) {
	d := newDisk(t, 20)
	m := &model{room: 20}
	for _, c := range []struct{ name, s string }{{"b", ""}, {"a", "xy"}, {"b", "1"}, {"a", ""}, {"a", "\x00\xff"}, {"b", "23"}} {
		want(t, "Append", d.Append(c.name, c.s), api.OK)
		m.append(c.name, c.s)
		checkSame(t, d, m)
	}
	want(t, "Sync", d.Sync("a"), api.OK)
	want(t, "Append", d.Append("a", "tail"), api.OK)
	checkSame(t, d, &model{20, []kept{{"a", "xy\x00\xff", "tail"}, {"b", "", "123"}}})
}

// Vd1: there are at most MaxFiles files; those that are there take more.
func TestVd1Full(t *testing.T) {
	d := newDisk(t, 1)
	m := &model{room: 1}
	for i := range 256 {
		name := fmt.Sprint("f", i)
		want(t, name, d.Append(name, ""), api.OK)
		m.append(name, "")
	}
	for _, s := range []string{"", "x", "too long, too"} {
		want(t, "one more", d.Append("more", s), api.ErrFull)
	}
	want(t, "a bad one", d.Append("", "x"), api.ErrArg)
	want(t, "one of them, too long", d.Append("f0", "xy"), api.ErrDisk)
	want(t, "one of them", d.Append("f255", "x"), m.append("f255", "x"))
	want(t, "to another name", d.Rename("f0", "more"), m.rename("f0", "more"))
	checkSame(t, d, m)
	want(t, "one more", d.Append("f0", ""), api.ErrFull)
	want(t, "over one", d.Rename("f1", "f2"), m.rename("f1", "f2"))
	want(t, "one more again", d.Append("f0", ""), m.append("f0", ""))
	want(t, "one too many", d.Append("f1", ""), api.ErrFull)
	want(t, "Remove", d.Remove("f9"), m.remove("f9"))
	want(t, "one more again", d.Append("f1", ""), m.append("f1", ""))
	checkSame(t, d, m)
}

// Vd1: all files together have at most as many bytes as there is room; what goes makes room.
func TestVd1Room(t *testing.T) {
	d := newDisk(t, 9)
	want(t, "exactly", d.Append("a", "12345"), api.OK)
	want(t, "more", d.Append("b", "12345"), api.ErrDisk)
	if d.Size("b") != -1 {
		t.Error("a refused file is there")
	}
	want(t, "more of a", d.Append("a", "12345"), api.ErrDisk)
	want(t, "exactly", d.Append("b", "1234"), api.OK)
	want(t, "one more", d.Append("a", "x"), api.ErrDisk)
	want(t, "nothing", d.Append("c", ""), api.OK)
	checkSame(t, d, &model{9, []kept{{"a", "", "12345"}, {"b", "", "1234"}, {"c", "", ""}}})
	want(t, "Cut", d.Cut("a", 2), api.OK)
	want(t, "more than went", d.Append("c", "1234"), api.ErrDisk)
	want(t, "as many as went", d.Append("c", "123"), api.OK)
	want(t, "Rename", d.Rename("a", "b"), api.OK)
	want(t, "more than went", d.Append("c", "12345"), api.ErrDisk)
	want(t, "as many as went", d.Append("c", "4567"), api.OK)
	want(t, "Remove", d.Remove("b"), api.OK)
	want(t, "as many as went", d.Append("c", "89"), api.OK)
	want(t, "Crash", d.Crash([]int{4}), api.OK)
	checkSame(t, d, &model{9, []kept{{"c", "1234", ""}}})
	want(t, "more than went", d.Append("c", "123456"), api.ErrDisk)
	want(t, "as many as went", d.Append("c", "12345"), api.OK)
}

// Vd1: the whole of MaxDisk is room; a disk without room has files without bytes.
func TestVd1RoomEdges(t *testing.T) {
	d := newDisk(t, api.MaxDisk)
	part := strings.Repeat("0123456789abcdef", 1<<16)
	for i := range 16 {
		want(t, "a part", d.Append(fmt.Sprint("f", i%3), part), api.OK)
	}
	want(t, "one more", d.Append("f0", "x"), api.ErrDisk)
	if d.Used() != api.MaxDisk {
		t.Error(d.Used())
	}
	none := newDisk(t, 0)
	want(t, "a byte", none.Append("a", "x"), api.ErrDisk)
	want(t, "nothing", none.Append("a", ""), api.OK)
	want(t, "Sync", none.Sync("a"), api.OK)
	want(t, "Cut", none.Cut("a", 0), api.OK)
	checkSame(t, none, &model{0, []kept{{"a", "", ""}}})
}

// Vd1: calls on a file that is not there.
func TestVd1None(t *testing.T) {
	d := newDisk(t, 9)
	d.Append("a", "xy")
	d.Append("b", "")
	d.Remove("b")
	for _, name := range []string{"b", "c", "aa", "A", strings.Repeat("a", 32)} {
		want(t, "Sync", d.Sync(name), api.ErrNone)
		want(t, "Remove", d.Remove(name), api.ErrNone)
		want(t, "Rename", d.Rename(name, "a"), api.ErrNone)
		want(t, "Rename to itself", d.Rename(name, name), api.ErrNone)
		for _, size := range []int{0, 1, math.MaxInt} {
			want(t, "Cut", d.Cut(name, size), api.ErrNone)
			s, e := d.Read(name, size, size)
			want(t, "Read"+s, e, api.ErrNone)
		}
		want(t, "Cut below 0", d.Cut(name, -1), api.ErrArg)
		for _, c := range [][2]int{{-1, 0}, {0, -1}, {math.MinInt, math.MaxInt}} {
			s, e := d.Read(name, c[0], c[1])
			want(t, "Read below 0"+s, e, api.ErrArg)
		}
		if d.Size(name) != -1 || d.Synced(name) != -1 {
			t.Fatal(name, d.Size(name), d.Synced(name))
		}
	}
	checkSame(t, d, &model{9, []kept{{"a", "", "xy"}}})
}

// Vd1: a file is cut to its first bytes, all of them synced, wherever the synced ones ended.
func TestVd1Cut(t *testing.T) {
	for synced := range 6 {
		for size := -1; size <= 6; size++ {
			d := newDisk(t, 9)
			d.Append("a", "01234"[:synced])
			d.Sync("a")
			d.Append("a", "01234"[synced:])
			before := kept{"a", "01234"[:synced], "01234"[synced:]}
			if size < 0 || size > 5 {
				want(t, "Cut", d.Cut("a", size), api.ErrArg)
				checkSame(t, d, &model{9, []kept{before}})
				continue
			}
			want(t, "Cut", d.Cut("a", size), api.OK)
			checkSame(t, d, &model{9, []kept{{"a", "01234"[:size], ""}}})
			want(t, "Append", d.Append("a", "xyz"), api.OK)
			checkSame(t, d, &model{9, []kept{{"a", "01234"[:size], "xyz"}}})
		}
	}
	d := newDisk(t, 9)
	d.Append("a", "xy")
	for _, size := range []int{math.MinInt, math.MaxInt} {
		want(t, "Cut", d.Cut("a", size), api.ErrArg)
	}
}

// Vd1: a file gets another name, in the place of one that has it; its synced bytes stay as many.
func TestVd1Rename(t *testing.T) {
	d := newDisk(t, 20)
	d.Append("a", "12")
	d.Sync("a")
	d.Append("a", "345")
	d.Append("b", "gone")
	d.Sync("b")
	d.Append("c", "xyz")
	m := &model{20, []kept{{"a", "12", "345"}, {"b", "gone", ""}, {"c", "", "xyz"}}}
	for _, c := range [][2]string{{"a", "a"}, {"c", "c"}, {"a", "b"}, {"b", "d"}, {"d", "a"}, {"c", "a"}, {"a", "~"}} {
		want(t, c[0]+" to "+c[1], d.Rename(c[0], c[1]), api.OK)
		m.rename(c[0], c[1])
		checkSame(t, d, m)
	}
	want(t, "Rename", d.Rename("a", "b"), api.ErrNone)
}

// Vd1: what is removed is no more; a file of that name begins anew.
func TestVd1Remove(t *testing.T) {
	d := newDisk(t, 9)
	d.Append("a", "xyz")
	d.Sync("a")
	d.Append("b", "q")
	want(t, "Remove", d.Remove("a"), api.OK)
	checkSame(t, d, &model{9, []kept{{"b", "", "q"}}})
	want(t, "again", d.Remove("a"), api.ErrNone)
	want(t, "Append", d.Append("a", "12"), api.OK)
	checkSame(t, d, &model{9, []kept{{"a", "", "12"}, {"b", "", "q"}}})
}

// Vd2: the bytes from at on, if there are so many.
func TestVd2Read(t *testing.T) {
	d := newDisk(t, 9)
	d.Append("a", "012")
	d.Sync("a")
	d.Append("a", "34")
	d.Append("b", "more")
	for at := -2; at <= 7; at++ {
		for n := -2; n <= 7; n++ {
			s, e := d.Read("a", at, n)
			if at < 0 || n < 0 || at+n > 5 {
				want(t, fmt.Sprint("Read ", at, n, s), e, api.ErrArg)
				continue
			}
			if s != "01234"[at:at+n] || e != api.OK {
				t.Errorf("Read(%d, %d): %q, %d", at, n, s, e)
			}
		}
	}
	far := []int{math.MinInt, -1, 0, 1, 5, 6, math.MaxInt - 5, math.MaxInt - 1, math.MaxInt}
	for _, at := range far {
		for _, n := range far {
			fits := at >= 0 && n >= 0 && at <= 5 && n <= 5-at
			if s, e := d.Read("a", at, n); (e == api.OK) != fits || (!fits && (s != "" || e != api.ErrArg)) {
				t.Errorf("Read(%d, %d): %q, %d", at, n, s, e)
			}
		}
	}
}

// Vd2: names rise byte by byte, in whatever order they came.
func TestVd2Names(t *testing.T) {
	rising := []string{"!", "0", "00", "1", "10", "2", "A", "Z", "_", "a", "aa", "aaa", "ab", "b", "~", "~~"}
	random := rand.New(rand.NewSource(8))
	for range 50 {
		d := newDisk(t, 0)
		for _, i := range random.Perm(len(rising)) {
			d.Append(rising[i], "")
		}
		if names := d.Names(); !slices.Equal(names, rising) {
			t.Fatalf("%q", names)
		}
	}
}

// Vd3: the chapter's example.
func TestVd3Example(t *testing.T) {
	for _, c := range []struct {
		keep []int
		want string
	}{{nil, "xy"}, {[]int{}, "xy"}, {[]int{0}, "xy"}, {[]int{1}, "xyz"}} {
		d := newDisk(t, 9)
		d.Append("a", "xy")
		d.Sync("a")
		d.Append("a", "z")
		want(t, "Crash", d.Crash(c.keep), api.OK)
		checkSame(t, d, &model{9, []kept{{"a", c.want, ""}}})
	}
}

// Vd3: the numbers go to the files by their names, rising; one below 0 is none, one beyond the tail all of it.
func TestVd3Crash(t *testing.T) {
	for _, keep := range [][]int{
		nil, {0}, {1}, {2}, {3}, {4}, {-1, 2}, {math.MinInt, math.MinInt, 1}, {math.MaxInt, math.MaxInt, math.MaxInt, math.MaxInt},
		{0, 1}, {0, 0, 1}, {0, 0, 0, 1}, {1, 2, 3, 4}, {4, 3, 2, 1}, {9, 9, 9, 9, 9, 9}, {0, 0, 0, 0, 5, 5}, {math.MaxInt - 1, -7, 1, 0, -1},
	} {
		d := newDisk(t, 99)
		m := &model{room: 99}
		for _, name := range []string{"b", "d", "a", "c"} {
			if name != "d" {
				d.Append(name, "old "+name)
				d.Sync(name)
				m.append(name, "old "+name)
				m.sync(name)
			}
			if name != "c" {
				d.Append(name, "new")
				m.append(name, "new")
			}
		}
		before := slices.Clone(keep)
		want(t, fmt.Sprint("Crash ", keep), d.Crash(keep), api.OK)
		m.crash(before)
		checkSame(t, d, m)
		if !slices.Equal(keep, before) {
			t.Errorf("%v became %v", before, keep)
		}
		want(t, "and once more", d.Crash(nil), api.OK)
		checkSame(t, d, m)
	}
}

// Vd3: a file without a byte that survives is there as before.
func TestVd3EmptyFiles(t *testing.T) {
	d := newDisk(t, 9)
	d.Append("a", "")
	d.Append("b", "xyz")
	want(t, "Crash", d.Crash(nil), api.OK)
	checkSame(t, d, &model{9, []kept{{"a", "", ""}, {"b", "", ""}}})
	want(t, "Append", d.Append("b", "123456789"), api.OK)
	none := newDisk(t, 9)
	want(t, "Crash without files", none.Crash([]int{1, 2}), api.OK)
	checkSame(t, none, &model{room: 9})
}

// Vd3: a copy is as the disk is; what is done to one is not done to the other.
func TestVd3Copy(t *testing.T) {
	first := func() (*vdisk.Disk, *model) {
		d := newDisk(t, 9)
		d.Append("a", "xy")
		d.Sync("a")
		d.Append("a", "z")
		d.Append("b", "")
		return d, &model{9, []kept{{"a", "xy", "z"}, {"b", "", ""}}}
	}
	for _, change := range []func(*vdisk.Disk) api.Errno{
		func(d *vdisk.Disk) api.Errno { return d.Append("a", "1") },
		func(d *vdisk.Disk) api.Errno { return d.Append("b", "1") },
		func(d *vdisk.Disk) api.Errno { return d.Append("c", "") },
		func(d *vdisk.Disk) api.Errno { return d.Sync("a") },
		func(d *vdisk.Disk) api.Errno { return d.Cut("a", 1) },
		func(d *vdisk.Disk) api.Errno { d.Cut("a", 0); return d.Append("a", "QQQ") },
		func(d *vdisk.Disk) api.Errno { return d.Rename("a", "c") },
		func(d *vdisk.Disk) api.Errno { return d.Remove("a") },
		func(d *vdisk.Disk) api.Errno { return d.Crash(nil) },
	} {
		d, m := first()
		c := d.Copy()
		checkSame(t, c, m)
		want(t, "change", change(c), api.OK)
		checkSame(t, d, m)
		c = d.Copy()
		want(t, "change", change(d), api.OK)
		checkSame(t, c, m)
	}
	d, _ := first()
	c := d.Copy().Copy()
	want(t, "beyond its room", c.Append("a", "1234567"), api.ErrDisk)
	want(t, "up to its room", c.Append("a", "123456"), api.OK)
	want(t, "the other has its own", d.Append("c", "123456"), api.OK)
	checkSame(t, d, &model{9, []kept{{"a", "xy", "z"}, {"b", "", ""}, {"c", "", "123456"}}})
	none := newDisk(t, 3)
	checkSame(t, none.Copy(), &model{room: 3})
}

// Vd3: bytes that stand in the place of others are one disk's alone, too.
func TestVd3CopyOfLong(t *testing.T) {
	d := newDisk(t, 999)
	long := strings.Repeat("0123456789", 10)
	d.Append("a", long)
	m := &model{999, []kept{{"a", "", long}}}
	c := d.Copy()
	for _, of := range []*vdisk.Disk{c, d} {
		want(t, "Cut", of.Cut("a", 90), api.OK)
		want(t, "Append", of.Append("a", "abc"), api.OK)
		checkSame(t, of, &model{999, []kept{{"a", long[:90], "abc"}}})
		if of == c {
			checkSame(t, d, m)
		}
	}
	want(t, "Append", d.Append("a", "d"), api.OK)
	want(t, "Append", c.Append("a", "e"), api.OK)
	checkSame(t, d, &model{999, []kept{{"a", long[:90], "abcd"}}})
	checkSame(t, c, &model{999, []kept{{"a", long[:90], "abce"}}})
}

// pair is a disk and its model.
type pair struct {
	d *vdisk.Disk
	m *model
}

func (p pair) copy() pair {
	return pair{p.d.Copy(), p.m.copy()}
}

// someName is a name, most often one of a few.
func someName(random *rand.Rand) string {
	names := []string{"a", "b", "c", "aa", "~", "a", "b", "c", "", "a b"}
	return names[random.Intn(len(names))]
}

// step does one call on both, and holds their answers against each other.
func (p pair) step(t *testing.T, random *rand.Rand) {
	t.Helper()
	name, n := someName(random), random.Intn(12)-1
	switch random.Intn(9) {
	case 0, 1, 2:
		s := "0123456789abcdef"[random.Intn(4):][:max(n, 0)]
		want(t, "Append "+name, p.d.Append(name, s), p.m.append(name, s))
	case 3:
		want(t, "Sync "+name, p.d.Sync(name), p.m.sync(name))
	case 4:
		want(t, "Cut "+name, p.d.Cut(name, n), p.m.cut(name, n))
	case 5:
		to := someName(random)
		want(t, "Rename "+name+" to "+to, p.d.Rename(name, to), p.m.rename(name, to))
	case 6:
		want(t, "Remove "+name, p.d.Remove(name), p.m.remove(name))
	case 7:
		p.read(t, name, n, random.Intn(8)-1)
	case 8:
		keep := make([]int, random.Intn(7))
		for i := range keep {
			keep[i] = random.Intn(10) - 2
		}
		want(t, "Crash", p.d.Crash(keep), api.OK)
		p.m.crash(keep)
	}
	checkSame(t, p.d, p.m)
}

// read holds a part of a file against the model's.
func (p pair) read(t *testing.T, name string, at, n int) {
	t.Helper()
	i, e := p.m.known(name)
	text := ""
	switch {
	case at < 0 || n < 0:
		e = api.ErrArg
	case e == api.OK && at+n > len(p.m.files[i].all()):
		e = api.ErrArg
	case e == api.OK:
		text = p.m.files[i].all()[at : at+n]
	}
	if s, got := p.d.Read(name, at, n); s != text || got != e {
		t.Fatalf("Read(%q, %d, %d): %q, %d, not %q, %d", name, at, n, s, got, text, e)
	}
}

// Vd1 to Vd3: many calls in whatever order, held against the model; copies go on by themselves.
func TestVd3Model(t *testing.T) {
	random := rand.New(rand.NewSource(80))
	for range 500 {
		room := random.Intn(60)
		pairs := []pair{{newDisk(t, room), &model{room: room}}}
		for range 150 {
			p := pairs[random.Intn(len(pairs))]
			if random.Intn(25) == 0 && len(pairs) < 4 {
				pairs = append(pairs, p.copy())
			}
			p.step(t, random)
		}
		for _, p := range pairs {
			checkSame(t, p.d, p.m)
		}
	}
}

// Vd4: through any number of crashes, what was synced is there, and of the tail a beginning.
func TestVd4Survives(t *testing.T) {
	random := rand.New(rand.NewSource(84))
	for range 300 {
		d := newDisk(t, 1<<12)
		for range 40 {
			name := fmt.Sprint("f", random.Intn(4))
			d.Append(name, strings.Repeat(string(rune('a'+random.Intn(26))), random.Intn(9)))
			if random.Intn(3) == 0 {
				d.Sync(name)
			}
			if random.Intn(5) == 0 {
				checkCrash(t, d, []int{random.Intn(20) - 5, random.Intn(20) - 5, random.Intn(20) - 5}[:random.Intn(4)])
			}
		}
	}
}

// checkCrash holds each file behind a crash to a beginning of what it was, all that was synced among it.
func checkCrash(t *testing.T, d *vdisk.Disk, keep []int) {
	t.Helper()
	names := d.Names()
	before := map[string]string{}
	synced := map[string]int{}
	for _, name := range names {
		before[name], _ = d.Read(name, 0, d.Size(name))
		synced[name] = d.Synced(name)
	}
	want(t, "Crash", d.Crash(keep), api.OK)
	if !slices.Equal(d.Names(), names) {
		t.Fatalf("%q, not %q", d.Names(), names)
	}
	for _, name := range names {
		s, e := d.Read(name, 0, d.Size(name))
		if e != api.OK || !strings.HasPrefix(before[name], s) || len(s) < synced[name] || d.Synced(name) != len(s) {
			t.Fatalf("%s was %q, %d of it synced; it is %q, %d of it synced", name, before[name], synced[name], s, d.Synced(name))
		}
	}
}

// Vd4: that a file was cut, has another name, or is no more, survives too.
func TestVd4Changes(t *testing.T) {
	d := newDisk(t, 99)
	for _, name := range []string{"cut", "from", "to", "gone"} {
		d.Append(name, "old "+name)
		d.Sync(name)
	}
	d.Append("from", " new")
	d.Cut("cut", 2)
	d.Rename("from", "to")
	d.Remove("gone")
	want(t, "Crash", d.Crash([]int{9, 2}), api.OK)
	checkSame(t, d, &model{99, []kept{{"cut", "ol", ""}, {"to", "old from n", ""}}})
}

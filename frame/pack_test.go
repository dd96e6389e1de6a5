package frame_test

import (
	"fmt"
	"strings"
	"sync"
	"testing"
	"unsafe"

	"postroad/api"
	"postroad/frame"
	"postroad/lz"
)

// Fr2: the chapter's example, and frames of one block.
func TestFr2Examples(t *testing.T) {
	for _, c := range []struct {
		plain, frame string
	}{
		{"", "\x04\x22\x4d\x18\x74\x40\xbd\x00\x00\x00\x00\x05\x5d\xcc\x02"},
		{"hello", "\x04\x22\x4d\x18\x74\x40\xbd\x05\x00\x00\x80hello" + sum("hello") + "\x00\x00\x00\x00" + sum("hello")},
		{"aaaaaaaaaaaaa", "\x04\x22\x4d\x18\x74\x40\xbd\x0a\x00\x00\x00\x13a\x01\x00\x50aaaaa" +
			sum("\x13a\x01\x00\x50aaaaa") + "\x00\x00\x00\x00" + sum("aaaaaaaaaaaaa")},
	} {
		if z, e := frame.Pack(c.plain); z != c.frame || e != api.OK {
			t.Errorf("Pack(%q) = %q, %v, want %q", c.plain, z, e, c.frame)
		}
	}
}

// packed packs a text, and holds the frame to Fr2, block by block.
func packed(t *testing.T, name, s string) string {
	t.Helper()
	z, e := frame.Pack(s)
	if e != api.OK {
		t.Errorf("%q: %v", name, e)
		return ""
	}
	checkUnpack(t, z, len(s), s, len(z), api.OK)
	checkUnpack(t, z+"x", api.MaxPlain, s, len(z), api.OK)
	want := "\x04\x22\x4d\x18\x74\x40\xbd"
	for left := s; left != ""; {
		n := min(len(left), 65536)
		want += wantedBlock(t, left[:n])
		left = left[n:]
	}
	if want += "\x00\x00\x00\x00" + sum(s); z != want {
		t.Errorf("%q: its frame is another one, of %d bytes", name, len(z))
	}
	return z
}

// wantedBlock is a block with its sum, that is plain, if it would not be shorter otherwise.
func wantedBlock(t *testing.T, plain string) string {
	t.Helper()
	block, e := lz.Pack(plain)
	if e != api.OK {
		t.Fatal(e)
	}
	if len(block) < len(plain) {
		return held(block, false) + sum(block)
	}
	return held(plain, true) + sum(plain)
}

// Fr2: what is packed is unpacked as it was.
func TestFr2Texts(t *testing.T) {
	for name, s := range texts() {
		packed(t, name, s)
	}
	for n := range 300 {
		packed(t, fmt.Sprint("noise ", n), noise(n, 256, int64(n)))
		packed(t, fmt.Sprint("few ", n), noise(n, 2, int64(n)))
		packed(t, fmt.Sprint("one ", n), strings.Repeat("\xff", n))
	}
}

// Fr2: each block but the last one has 65536 plain bytes.
func TestFr2Blocks(t *testing.T) {
	for _, n := range []int{1, 65535, 65536, 65537, 131071, 131072, 131073, 200000, api.MaxPlain - 1, api.MaxPlain} {
		plain := noise(n, 256, int64(n))
		if z := packed(t, fmt.Sprint("noise ", n), plain); len(z) != 7+n+(n+65535)/65536*8+8 {
			t.Errorf("noise of %d: %d bytes", n, len(z))
		}
		packed(t, fmt.Sprint("noughts ", n), strings.Repeat("\x00", n))
	}
}

// Fr2: a block that would be as long packed as plain is plain; one that would be a byte shorter is packed.
func TestFr2PlainBlocks(t *testing.T) {
	for _, c := range []struct {
		plain  string
		packed bool
	}{
		{"abcdabcdefghijkl", false},
		{"abcdeabcdefghijkl", true},
		{"abcdefghijklmnop", false},
		{"aaaaaaaaaaaa", false},
		{"aaaaaaaaaaaaa", true},
	} {
		z := packed(t, c.plain, c.plain)
		if isPacked := z[10] < 128; isPacked != c.packed {
			t.Errorf("%q: packed is %v", c.plain, isPacked)
		}
	}
	if block, _ := lz.Pack("abcdabcdefghijkl"); len(block) != 16 {
		t.Errorf("packed it has %d bytes: it is no edge", len(block))
	}
}

// Fr2: at most MaxPlain bytes; of more there is nothing but ErrLong.
func TestFr2Limit(t *testing.T) {
	most := strings.Repeat("\x00", api.MaxPlain)
	if z := packed(t, "noughts", most); len(z) >= 65536 {
		t.Errorf("%d bytes", len(z))
	}
	for _, more := range []string{most + "\x00", most + most} {
		if z, e := frame.Pack(more); z != "" || e != api.ErrLong {
			t.Errorf("%d bytes: %d bytes, %v", len(more), len(z), e)
		}
	}
}

// numbersOf are the places of the blocks' numbers in a frame of Pack, the four noughts not among them.
func numbersOf(z string) map[int]int {
	out := map[int]int{}
	for at := 7; ; {
		n := int(z[at]) | int(z[at+1])<<8 | int(z[at+2])<<16 | int(z[at+3]&127)<<24
		if n == 0 {
			return out
		}
		for i := range 4 {
			out[at+i] = n
		}
		at += 4 + n + 4
	}
}

// Fr3: each byte behind the head's sum that is another one, but for those of blocks' numbers, is told.
func TestFr3EveryByte(t *testing.T) {
	for _, s := range []string{"", "x", "hello", "hello hello hello hello hello", noise(300, 256, 1), noise(300, 2, 2), strings.Repeat("abc", 300)} {
		z, _ := frame.Pack(s)
		numbers := numbersOf(z)
		for at := 7; at < len(z); at++ {
			if numbers[at] != 0 {
				continue
			}
			for x := 1; x < 256; x++ {
				checkOther(t, z, at, byte(x))
			}
		}
	}
}

// Fr3: the same of frames of several blocks, at places near their edges and in between.
func TestFr3SeveralBlocks(t *testing.T) {
	for _, name := range []string{"noise", "noise of few", "noise, noughts", "noughts, noise", "noughts"} {
		z, _ := frame.Pack(texts()[name])
		numbers := numbersOf(z)
		for at := 7; at < len(z); at++ {
			if numbers[at] == 0 && (numbers[at-1] != 0 || numbers[at-4] != 0 || at >= len(z)-12 || at%1709 == 0) {
				checkOther(t, z, at, 1)
				checkOther(t, z, at, 128)
				checkOther(t, z, at, 255)
			}
		}
	}
}

func checkOther(t *testing.T, z string, at int, x byte) {
	t.Helper()
	other := []byte(z)
	other[at] ^= x
	if plain, took, e := frame.Unpack(string(other), api.MaxPlain); plain != "" || took != 0 || e == api.OK {
		t.Errorf("a frame of %d bytes, at %d by %d: %d bytes, %v", len(z), at, x, len(plain), e)
	}
}

func shares(a, b string) bool {
	if len(a) < 2 || len(b) < 2 {
		return false
	}
	from := func(s string) uintptr { return uintptr(unsafe.Pointer(unsafe.StringData(s))) }
	return from(a) < from(b)+uintptr(len(b)) && from(b) < from(a)+uintptr(len(a))
}

// R3: an answer is new memory.
func TestR3NewMemory(t *testing.T) {
	for name, s := range texts() {
		z, _ := frame.Pack(s)
		again, _ := frame.Pack(s)
		plain, _, _ := frame.Unpack(z, api.MaxPlain)
		other, _, _ := frame.Unpack(z, api.MaxPlain)
		for _, pair := range [][2]string{{z, s}, {z, again}, {plain, z}, {plain, s}, {plain, other}} {
			if shares(pair[0], pair[1]) {
				t.Errorf("%q: they share memory", name)
			}
		}
	}
}

// R4: the same again, also where others pack and unpack at the same time.
func TestR4Again(t *testing.T) {
	all := texts()
	want := map[string]string{}
	for name, s := range all {
		want[name], _ = frame.Pack(s)
	}
	var group sync.WaitGroup
	for range 4 {
		group.Go(func() {
			for name, s := range all {
				if z, e := frame.Pack(s); z != want[name] || e != api.OK {
					t.Errorf("%q: another frame, %v", name, e)
				}
				if plain, n, e := frame.Unpack(want[name], len(s)); plain != s || n != len(want[name]) || e != api.OK {
					t.Errorf("%q: %d bytes out of %d, %v", name, len(plain), n, e)
				}
			}
		})
	}
	group.Wait()
}

package lz_test

import (
	"fmt"
	"slices"
	"strings"
	"sync"
	"testing"
	"unsafe"

	"postroad/api"
	"postroad/lz"
)

// Lz2: the chapter's example, and texts that are too short for a copy.
func TestLz2Examples(t *testing.T) {
	for _, c := range []struct {
		plain, block string
	}{
		{"", "\x00"},
		{"a", "\x10a"},
		{"aaaaaaaaaaaa", "\xc0aaaaaaaaaaaa"},
		{"abcdefghijklmn", "\xe0abcdefghijklmn"},
		{"abcdefghijklmno", "\xf0\x00abcdefghijklmno"},
		{"abcdefghijklmnop", "\xf0\x01abcdefghijklmnop"},
		{"aaaaaaaaaaaaa", "\x13a\x01\x00\x50aaaaa"},
		{"abcdabcdefghijkl", "\x40abcd\x04\x00\x80efghijkl"},
	} {
		if block := packed(t, c.plain, c.plain); block != c.block {
			t.Errorf("Pack(%q) = %q, want %q", c.plain, block, c.block)
		}
	}
}

// Lz2: what is packed is unpacked as it was.
func TestLz2Texts(t *testing.T) {
	for name, s := range texts() {
		packed(t, name, s)
	}
}

// Lz2: texts of each length up to some, of few bytes and of many.
func TestLz2ShortTexts(t *testing.T) {
	for n := range 600 {
		packed(t, fmt.Sprint("noise ", n), noise(n, 256, int64(n)))
		packed(t, fmt.Sprint("few ", n), noise(n, 2, int64(n)))
		packed(t, fmt.Sprint("one ", n), strings.Repeat("\xff", n))
		packed(t, fmt.Sprint("words ", n), sentence(n, int64(n)))
	}
}

// Lz2: each text of at most 16 bytes out of two, where copies overlap in all ways, up to the end.
func TestLz2AllTexts(t *testing.T) {
	for n := range 17 {
		for which := range 1 << n {
			text := make([]byte, n)
			for i := range text {
				text[i] = "ab"[which>>i&1]
			}
			packed(t, string(text), string(text))
		}
	}
}

// Lz2: how long a block is at most, where there is nothing to copy.
func TestLz2NoCopies(t *testing.T) {
	var text strings.Builder
	for n := 0; n < 65536; n++ {
		text.Write([]byte{byte(n), byte(n >> 8)})
	}
	// Four bytes in a row tell where they stand in it, but for a few.
	for n := range 2000 {
		packed(t, fmt.Sprint("no copies, ", n), text.String()[:n])
	}
	packed(t, "no copies", text.String())
	for _, n := range []int{254, 255, 256, 269, 270, 271, 524, 525, 526, 70000} {
		packed(t, fmt.Sprint("noise ", n), noise(n, 256, 1))
	}
}

// Lz2: a text again behind it, from so far back, of each length: at the end a copy takes as much as it may.
func TestLz2End(t *testing.T) {
	from := noise(300, 256, 2)
	for n := range 301 {
		block := packed(t, fmt.Sprint("again ", n), from+from[:n])
		want := len(from) + 3
		if n >= 12 {
			want += 1 + 2 + 1 + 5
		} else {
			want += n
		}
		if copied := n - 5 - 4; copied >= 15 {
			want += (copied-15)/255 + 1
		}
		if len(block) > want {
			t.Errorf("%d bytes again: %d bytes, want %d", n, len(block), want)
		}
	}
}

// Lz2: plain bytes and copies of each length, ahead of others.
func TestLz2Lengths(t *testing.T) {
	from := noise(600, 200, 3)
	for n := 1; n < 600; n++ {
		packed(t, fmt.Sprint("copy of ", n), from+"\xfe"+from[:n]+"\xff\xfd0123456789abc")
		packed(t, fmt.Sprint("copy behind ", n), "0123\xfe0123\xff"+from[:n]+"0123456789abcdef")
	}
}

// Lz2: copies are found, near and far, up to how far they may come from; from farther on they are not taken.
func TestLz2Distances(t *testing.T) {
	for _, distance := range []int{1, 2, 3, 4, 5, 255, 256, 257, 1000, 32768, 65534, 65535, 65536, 65537, 100000, 131072} {
		text := noise(distance, 256, 4)
		for _, n := range []int{20, 100, 400} {
			whole := text
			for len(whole) < distance+n {
				whole += whole[len(whole)-distance:][:1]
			}
			block := packed(t, fmt.Sprint(n, " from ", distance), whole)
			if distance <= 65535 && len(block) > distance+distance/255+2+20 {
				t.Errorf("%d bytes from %d back: %d bytes", n, distance, len(block))
			}
		}
	}
}

// Lz2: copies are found in what was copied itself, where it stood first being too far away.
func TestLz2CopiesOfCopies(t *testing.T) {
	from := noise(200, 256, 5)
	text := from + noise(40000, 256, 6) + from + noise(40000, 256, 7)
	bare := packed(t, "bare", text)
	if again := packed(t, "again", text+from[10:]+"01234"); len(again) > len(bare)+15 {
		t.Errorf("%d bytes more", len(again)-len(bare))
	}
}

// Lz2: of several copies the longest is taken.
func TestLz2LongestCopy(t *testing.T) {
	from := noise(100, 256, 8)
	text := from + noise(50, 256, 9) + from[:10] + noise(50, 256, 10)
	bare := packed(t, "bare", text)
	if again := packed(t, "again", text+from+"01234"); len(again) > len(bare)+12 {
		t.Errorf("%d bytes more", len(again)-len(bare))
	}
}

// Lz2: at most MaxPlain bytes; of more there is nothing but ErrLong.
func TestLz2Limit(t *testing.T) {
	most := noise(api.MaxPlain, 256, 11)
	packed(t, "as many as may be", most)
	packed(t, "as many of one", strings.Repeat("a", api.MaxPlain))
	packed(t, "as many of two", noise(api.MaxPlain, 2, 12))
	for _, more := range []string{most + "a", most + most, strings.Repeat("\x00", api.MaxPlain+1)} {
		if block, e := lz.Pack(more); block != "" || e != api.ErrLong {
			t.Errorf("%d bytes: %d bytes, %v", len(more), len(block), e)
		}
	}
}

// Lz3: a text that is written again and again is packed into less than a tenth and 120 bytes.
func TestLz3Again(t *testing.T) {
	for n := 1; n <= 100; n++ {
		for seed := range int64(10) {
			// Where four bytes come again in one time, most places where they were met are none to copy from.
			for _, unit := range []string{noise(n, 256, seed), noise(n, 2, seed), noise(n, 3, seed),
				mostlyOne(n, n/4+1, seed), mostlyOne(n, n/20+1, seed), sentence(n, seed), strings.Repeat("z", n-1) + "y"} {
				checkAgain(t, unit, 2000)
				checkAgain(t, unit, 2000+n/2+258)
			}
		}
	}
	for _, n := range []int{1, 2, 3, 99, 100} {
		for _, unit := range []string{noise(n, 256, 1), noise(n, 2, 2), mostlyOne(n, n/10+1, 3)} {
			checkAgain(t, unit, 70000)
			checkAgain(t, unit, api.MaxPlain)
		}
	}
	checkAgain(t, "abc", 3000)
}

func checkAgain(t *testing.T, unit string, length int) {
	t.Helper()
	text := strings.Repeat(unit, length/len(unit)+1)
	// Whole times, and a last one that is cut.
	for _, s := range []string{text, text[:length]} {
		if len(s) > api.MaxPlain {
			continue
		}
		if block := packed(t, unit, s); len(block)*10 >= len(s)+1200 {
			t.Errorf("%q again and again, %d bytes: %d", unit, len(s), len(block))
		}
	}
}

// R1: each call ends soon, also at texts that meet the same bytes everywhere without being the same.
func TestR1HardTexts(t *testing.T) {
	for name, s := range hardTexts() {
		packed(t, name, s)
	}
}

// R3: an answer is new memory, and what was handed in stays as it was.
func TestR3NewMemory(t *testing.T) {
	for _, n := range []int{0, 1, 2, 14, 100, 100000} {
		text := noise(n, 256, 13)
		block, _ := lz.Pack(text)
		checkMemory(t, fmt.Sprint("Pack of ", n), text, lz.Pack)
		checkMemory(t, fmt.Sprint("Unpack to ", n), block, func(s string) (string, api.Errno) { return lz.Unpack(s, n) })
	}
}

func checkMemory(t *testing.T, name, was string, call func(string) (string, api.Errno)) {
	t.Helper()
	given := []byte(was)
	text := unsafe.String(unsafe.SliceData(given), len(given))
	first, _ := call(text)
	second, _ := call(text)
	if shares(first, text) || shares(first, second) {
		t.Errorf("%s shares memory", name)
	}
	if string(given) != was {
		t.Errorf("%s has changed what was handed in", name)
	}
	kept := strings.Clone(first)
	slices.Reverse(given)
	if first != kept {
		t.Errorf("%s hangs on what was handed in afterwards", name)
	}
}

// shares tells whether two texts have memory in common; those of one byte stand where the language keeps all of them.
func shares(a, b string) bool {
	if len(a) < 2 || len(b) < 2 {
		return false
	}
	from, to := uintptr(unsafe.Pointer(unsafe.StringData(a))), uintptr(unsafe.Pointer(unsafe.StringData(b)))
	return from < to+uintptr(len(b)) && to < from+uintptr(len(a))
}

// R3: what stands behind a text's end in memory is not read.
func TestR3NotBeyondTheEnd(t *testing.T) {
	whole := noise(50, 256, 14) + noise(50, 256, 14) + "01234"
	block, _ := lz.Pack(whole)
	for n := range len(whole) {
		cut, _ := lz.Pack(whole[:n])
		alone, _ := lz.Pack(strings.Clone(whole[:n]))
		if cut != alone {
			t.Errorf("Pack of the first %d bytes hangs on those behind", n)
		}
	}
	for n := range len(block) {
		cut, e1 := lz.Unpack(block[:n], 200)
		alone, e2 := lz.Unpack(strings.Clone(block[:n]), 200)
		if cut != alone || e1 != e2 {
			t.Errorf("Unpack of the first %d bytes hangs on those behind", n)
		}
	}
}

// R4: the same text is packed into the same bytes, whatever is packed beside it.
func TestR4SameAnswers(t *testing.T) {
	text := sentence(60000, 15) + noise(1000, 256, 16)
	want, _ := lz.Pack(text)
	var wait sync.WaitGroup
	for i := range 8 {
		wait.Go(func() {
			lz.Pack(noise(1000, 4, int64(i)))
			if got, e := lz.Pack(text); got != want || e != api.OK {
				t.Error("not the same again")
			}
			if got, e := lz.Unpack(want, len(text)); got != text || e != api.OK {
				t.Error("unpacked it is another text")
			}
		})
	}
	wait.Wait()
}

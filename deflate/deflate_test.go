package deflate_test

import (
	"fmt"
	"math/rand"
	"slices"
	"strings"
	"sync"
	"testing"
	"unsafe"

	"postroad/api"
	"postroad/deflate"
)

// De1: the chapter's examples, and a few more that are told byte by byte.
func TestDe1Examples(t *testing.T) {
	for _, c := range []struct {
		name, plain, packed string
	}{
		{"Stored", "", "\x01\x00\x00\xff\xff"},
		{"Stored", "a", "\x01\x01\x00\xfe\xffa"},
		{"Stored", "hi", "\x01\x02\x00\xfd\xffhi"},
		{"Fixed", "", "\x03\x00"},
		{"Fixed", "a", "\x4b\x04\x00"},
		{"Deflate", "", "\x03\x00"},
		{"Deflate", "a", "\x4b\x04\x00"},
	} {
		packed, e := calls()[c.name](c.plain)
		if packed != c.packed || e != api.OK {
			t.Errorf("%s(%q) = %q, %v, want %q", c.name, c.plain, packed, e, c.packed)
		}
	}
}

// De1: what is packed is unpacked as it was, and all of it is taken.
func TestDe1Texts(t *testing.T) {
	for name, s := range texts() {
		checkAll(t, name, s)
	}
}

// De1: texts of each length up to some, of few bytes and of many.
func TestDe1ShortTexts(t *testing.T) {
	for n := range 300 {
		checkAll(t, fmt.Sprint("noise ", n), noise(n, 256, int64(n)))
		checkAll(t, fmt.Sprint("few ", n), noise(n, 2, int64(n)))
		checkAll(t, fmt.Sprint("one ", n), strings.Repeat("\xff", n))
	}
	for first := range 256 {
		checkAll(t, fmt.Sprint("byte ", first), string([]byte{byte(first)}))
	}
}

// De1: each text of at most eight bytes out of two, where copies overlap in all ways.
func TestDe1AllTexts(t *testing.T) {
	for n := range 9 {
		for which := range 1 << n {
			text := make([]byte, n)
			for i := range text {
				text[i] = "ab"[which>>i&1]
			}
			checkAll(t, fmt.Sprintf("%q", text), string(text))
		}
	}
}

// De1: copies of each length, as far back as may be and one byte farther, to the text's end and into its midst.
func TestDe1Copies(t *testing.T) {
	from := noise(258+2, 200, 1)
	for length := 1; length <= len(from); length++ {
		text := from + "\xfe" + from[:length]
		checkAll(t, fmt.Sprint("length ", length), text)
		checkAll(t, fmt.Sprint("length ", length, " and more"), text+"\xff\xfd")
	}
	between := noise(1<<15, 100, 2)
	for _, distance := range []int{1, 2, 3, 4, 5, 6, 7, 8, 9, 12, 13, 16, 17, 24, 25, 32, 33, 48, 49, 64, 65, 96, 97,
		128, 129, 192, 193, 256, 257, 384, 385, 512, 513, 768, 769, 1024, 1025, 1536, 1537, 2048, 2049, 3072, 3073, 4096,
		4097, 6144, 6145, 8192, 8193, 12288, 12289, 16384, 16385, 24576, 24577, 32767, 32768, 32769, 32770} {
		for _, length := range []int{3, 4, 10, 11, 257, 258, 259, 300} {
			from := "\xfa\xfb\xfc" + noise(distance, 100, 3)
			if len(from) < distance {
				from += between
			}
			text := from[:distance]
			for len(text) < distance+length {
				text += text[len(text)-distance:][:1]
			}
			checkAll(t, fmt.Sprint("distance ", distance, ", length ", length), text+"\xff\xfd")
		}
	}
}

// De1: copies are found, near and far, up to how far they may come from.
func TestDe1CopiesAreFound(t *testing.T) {
	for _, distance := range []int{300, 1000, 4096, 4097, 30000, 32767, 32768} {
		text := noise(distance, 100, 4)
		bare, _ := deflate.Deflate(text)
		for _, length := range []int{50, 258, 300} {
			packed, _ := deflate.Deflate(text + text[:length])
			if len(packed) > len(bare)+30 {
				t.Errorf("%d bytes from %d back: %d bytes more", length, distance, len(packed)-len(bare))
			}
		}
	}
}

// De1: copies are found up to the text's end, of as few bytes as may be.
func TestDe1ShortestCopy(t *testing.T) {
	packed, _ := deflate.Fixed("\xff\xfe\xfd\xff\xfe\xfd")
	if bits := 3 + 3*9 + (7 + 5) + 7; len(packed) != (bits+7)/8 {
		t.Errorf("%d bytes, want %d bits", len(packed), bits)
	}
}

// De1: copies are found in what was copied itself, where it stood first being too far away.
func TestDe1CopiesOfCopies(t *testing.T) {
	from := noise(200, 100, 15)
	text := from + noise(20000, 100, 16) + from + noise(20000, 100, 17)
	bare, _ := deflate.Deflate(text)
	packed, _ := deflate.Deflate(text + from[10:])
	if len(packed) > len(bare)+10 {
		t.Errorf("%d bytes more", len(packed)-len(bare))
	}
}

// De1: at most MaxPlain bytes; of more there is nothing but ErrLong.
func TestDe1Limit(t *testing.T) {
	most := noise(api.MaxPlain, 256, 5)
	checkAll(t, "as many as may be", most)
	checkAll(t, "as many of one", strings.Repeat("a", api.MaxPlain))
	for name, call := range calls() {
		for _, more := range []string{most + "a", most + most, strings.Repeat("\x00", api.MaxPlain+1)} {
			if packed, e := call(more); packed != "" || e != api.ErrLong {
				t.Errorf("%s of %d bytes: %d bytes, %v", name, len(more), len(packed), e)
			}
		}
	}
}

// De1: Stored is blocks of kind 0, of 65535 bytes each but the last one, which is empty only if the text is.
func TestDe1Stored(t *testing.T) {
	text := noise(api.MaxPlain, 256, 6)
	for _, n := range []int{0, 1, 255, 256, 65534, 65535, 65536, 131069, 131070, 131071, 16 * 65535, 16*65535 + 1, len(text)} {
		packed, e := deflate.Stored(text[:n])
		if want := storedBlocks(text[:n]); packed != want || e != api.OK {
			t.Errorf("Stored of %d bytes: %d bytes, want %d; %v", n, len(packed), len(want), e)
		}
	}
}

// storedBlocks are the blocks that the chapter asks for.
func storedBlocks(plain string) string {
	var out strings.Builder
	for more := true; more; {
		n := min(len(plain), 65535)
		more = n < len(plain)
		head := byte(1)
		if more {
			head = 0
		}
		out.Write([]byte{head, byte(n), byte(n >> 8), ^byte(n), ^byte(n >> 8)})
		out.WriteString(plain[:n])
		plain = plain[n:]
	}
	return out.String()
}

// De2: how long Fixed is at most, where the bytes are those of the longest words and there is nothing to copy; checkAll
// looks at it for each text.
func TestDe2FixedOfLongWords(t *testing.T) {
	var text []byte
	for b := range 112 {
		text = append(text, byte(144+b))
	}
	for n := range len(text) + 1 {
		packed, _ := deflate.Fixed(string(text[:n]))
		if len(packed) != (9*n+17)/8 {
			t.Errorf("%d bytes: %d, want %d", n, len(packed), (9*n+17)/8)
		}
	}
	checkAll(t, "long words", string(text))
}

// De2: where parts of a text are best by one kind of block, many heads would make it longer than Stored.
func TestDe2Noise(t *testing.T) {
	for _, n := range []int{1, 2, 100, 1 << 14, 1<<14 + 1, 3 << 14, 65535, 65536, 200000} {
		text := noise(n, 256, 7)
		packed, _ := deflate.Deflate(text)
		storedText, _ := deflate.Stored(text)
		fixedText, _ := deflate.Fixed(text)
		if len(packed) > min(len(storedText), len(fixedText)) {
			t.Errorf("%d bytes: %d, stored %d, fixed %d", n, len(packed), len(storedText), len(fixedText))
		}
	}
}

// De2: texts for which the fixed code is about as good as one of their own.
func TestDe2LikeFixed(t *testing.T) {
	for _, n := range []int{100, 1000, 1 << 14, 1<<14 + 100, 100000} {
		for seed := range int64(5) {
			checkAll(t, fmt.Sprint("like fixed ", n), likeFixed(n, seed))
		}
	}
}

// likeFixed is a text whose bytes come about as often as the fixed code has them.
func likeFixed(n int, seed int64) string {
	source := rand.New(rand.NewSource(seed))
	out := make([]byte, n)
	for i := range out {
		at := source.Intn(144*2 + 112)
		if at < 144*2 {
			out[i] = byte(at / 2)
		} else {
			out[i] = byte(at - 144)
		}
	}
	return string(out)
}

// De2: a few bytes more are packed into a few more, also where they begin a part.
func TestDe2FewMore(t *testing.T) {
	text := noise(1<<14+400, 128, 14)
	ahead, _ := deflate.Deflate(text[:1<<14-100])
	for n := 1<<14 - 100; n < len(text); n += 5 {
		packed, _ := deflate.Deflate(text[:n])
		if len(packed) > len(ahead)+10 {
			t.Errorf("%d bytes: %d, five fewer: %d", n, len(packed), len(ahead))
		}
		ahead = packed
	}
}

// De2: texts are packed about as well as by the library, which takes the same means.
func TestDe2AsTheLibrary(t *testing.T) {
	for name, s := range texts() {
		packed, _ := deflate.Deflate(s)
		if n := libraryLength(s); len(packed) > n+n/20+10 {
			t.Errorf("%s: %d bytes, by the library %d", name, len(packed), n)
		}
	}
}

// De2: each part of a text is packed as is best for it.
func TestDe2Parts(t *testing.T) {
	wild, words := noise(100000, 256, 8), sentence(100000, 9)
	wildPacked, _ := deflate.Deflate(wild)
	wordsPacked, _ := deflate.Deflate(words)
	wordsFixed, _ := deflate.Fixed(words)
	if len(wordsPacked)*10 > len(wordsFixed)*9 {
		t.Errorf("words by codes of their own: %d bytes, by the fixed one %d", len(wordsPacked), len(wordsFixed))
	}
	both, _ := deflate.Deflate(wild + words)
	if len(both) > len(wildPacked)+len(wordsPacked)+1000 {
		t.Errorf("both: %d bytes, alone: %d and %d", len(both), len(wildPacked), len(wordsPacked))
	}
}

// De3: a text that is written again and again is packed into less than a tenth and 120 bytes.
func TestDe3Again(t *testing.T) {
	for n := 1; n <= 100; n++ {
		units := []string{noise(n, 256, int64(n)), noise(n, 2, int64(n)), strings.Repeat("z", n-1) + "y", likeFixed(n, int64(n))}
		for _, unit := range units {
			checkAgain(t, unit, 2000)
			checkAgain(t, unit, 2000+n/2+258)
		}
	}
	for _, length := range []int{5000, 40000} {
		checkAgain(t, noise(100, 256, 1), length)
	}
	for _, n := range []int{1, 2, 3, 99, 100} {
		checkAgain(t, noise(n, 256, int64(n)), api.MaxPlain)
	}
	checkAgain(t, "abc", 3000)
}

func checkAgain(t *testing.T, unit string, length int) {
	t.Helper()
	text := strings.Repeat(unit, length/len(unit)+1)
	// Whole times, and a last one that is cut.
	for _, s := range []string{text, text[:length]} {
		if len(s) > api.MaxPlain {
			continue
		}
		packed, e := deflate.Deflate(s)
		if e != api.OK || len(packed)*10 >= len(s)+1200 {
			t.Errorf("%q again and again, %d bytes: %d, %v", unit, len(s), len(packed), e)
		}
		if told(t, packed) != s {
			t.Errorf("%q again and again, %d bytes: unpacked it is another text", unit, len(s))
		}
	}
}

// De3, as the whole's ninth example has it.
func TestDe3Example(t *testing.T) {
	if packed, e := deflate.Deflate(strings.Repeat("abc", 1000)); len(packed) >= 100 || e != api.OK {
		t.Errorf("%d bytes, %v", len(packed), e)
	}
}

// R1: each call ends soon, also at texts that meet the same bytes everywhere without being the same.
func TestR1HardTexts(t *testing.T) {
	for name, s := range hardTexts() {
		checkAll(t, name, s)
	}
}

func hardTexts() map[string]string {
	var growing, comb strings.Builder
	for n := 0; growing.Len() < 200000; n = (n + 1) % 300 {
		growing.WriteString(strings.Repeat("a", n) + "b")
	}
	for n := 0; comb.Len() < 200000; n++ {
		comb.WriteString("abcabcabc" + string([]byte{byte(n), byte(n >> 8)}))
	}
	fibonacci, ahead := "a", "b"
	for len(fibonacci) < 200000 {
		fibonacci, ahead = fibonacci+ahead, fibonacci
	}
	return map[string]string{"growing": growing.String(), "comb": comb.String(), "fibonacci": fibonacci}
}

// R3: an answer is new memory, and what was handed in stays as it was.
func TestR3NewMemory(t *testing.T) {
	for _, n := range []int{0, 1, 100, 100000} {
		given := []byte(noise(n, 256, 10))
		text := unsafe.String(unsafe.SliceData(given), len(given))
		was := string(given)
		for name, call := range calls() {
			first, _ := call(text)
			second, _ := call(text)
			if shares(first, text) || shares(first, second) {
				t.Errorf("%s of %d bytes shares memory", name, n)
			}
			if string(given) != was {
				t.Fatalf("%s of %d bytes has changed them", name, n)
			}
			kept := strings.Clone(first)
			slices.Reverse(given)
			if first != kept {
				t.Errorf("%s of %d bytes hangs on them afterwards", name, n)
			}
			slices.Reverse(given)
		}
	}
}

func shares(a, b string) bool {
	if a == "" || b == "" {
		return false
	}
	from, to := uintptr(unsafe.Pointer(unsafe.StringData(a))), uintptr(unsafe.Pointer(unsafe.StringData(b)))
	return from < to+uintptr(len(b)) && to < from+uintptr(len(a))
}

// R3: what stands behind a text's end in memory is not read.
func TestR3NotBeyondTheEnd(t *testing.T) {
	whole := noise(50, 256, 11) + noise(50, 256, 11)
	for n := range len(whole) {
		for name, call := range calls() {
			cut, _ := call(whole[:n])
			alone, _ := call(strings.Clone(whole[:n]))
			if cut != alone {
				t.Errorf("%s of the first %d bytes hangs on those behind", name, n)
			}
		}
	}
}

// R4: the same text is packed into the same bytes, whatever is packed beside it.
func TestR4SameAnswers(t *testing.T) {
	text := sentence(60000, 12) + noise(1000, 256, 13)
	for name, call := range calls() {
		want, _ := call(text)
		var wait sync.WaitGroup
		for i := range 8 {
			wait.Go(func() {
				call(noise(1000, 4, int64(i)))
				if got, e := call(text); got != want || e != api.OK {
					t.Errorf("%s: not the same again", name)
				}
			})
		}
		wait.Wait()
	}
}

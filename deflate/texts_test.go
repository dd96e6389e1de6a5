package deflate_test

import (
	"bytes"
	"compress/flate"
	"io"
	"math/rand"
	"strings"
	"testing"

	"postroad/api"
	"postroad/deflate"
	"postroad/inflate"
)

func calls() map[string]func(string) (string, api.Errno) {
	return map[string]func(string) (string, api.Errno){
		"Deflate": deflate.Deflate,
		"Stored":  deflate.Stored,
		"Fixed":   deflate.Fixed,
	}
}

// checkAll packs a text by all calls, and holds the answers to De1 and De2.
func checkAll(t *testing.T, name, s string) {
	t.Helper()
	length := map[string]int{}
	for call, pack := range calls() {
		packed, e := pack(s)
		if e != api.OK {
			t.Errorf("%s: %s: %v", name, call, e)
			continue
		}
		length[call] = len(packed)
		if told(t, packed) != s {
			t.Errorf("%s: %s: unpacked it is another text", name, call)
		}
		// That it is the last block is told by its first bit, and nothing stands behind it: so it is the only one.
		if call == "Fixed" && packed[0]&7 != 3 {
			t.Errorf("%s: %s begins with the bits of %d", name, call, packed[0]&7)
		}
	}
	if length["Fixed"] > (9*len(s)+17)/8 {
		t.Errorf("%s: Fixed has %d bytes of %d", name, length["Fixed"], len(s))
	}
	if length["Deflate"] > min(length["Fixed"], length["Stored"]) {
		t.Errorf("%s: %v", name, length)
	}
}

// told is what layer 4 tells out of packed bytes, all of which it has to take, and the library's reader has to agree.
func told(t *testing.T, packed string) string {
	t.Helper()
	plain, n, e := inflate.Inflate(packed, api.MaxPlain)
	if n != len(packed) || e != api.OK {
		t.Errorf("Inflate takes %d of %d bytes: %v", n, len(packed), e)
	}
	source := bytes.NewReader([]byte(packed))
	library, err := io.ReadAll(flate.NewReader(source))
	if err != nil || string(library) != plain || source.Len() != 0 {
		t.Errorf("the library leaves %d of %d bytes: %v", source.Len(), len(packed), err)
	}
	return plain
}

// libraryLength is how many bytes the library packs a text into.
func libraryLength(s string) int {
	var out bytes.Buffer
	w, _ := flate.NewWriter(&out, 6)
	io.WriteString(w, s)
	w.Close()
	return out.Len()
}

// noise is bytes below a number, each as likely as the others.
func noise(n, below int, seed int64) string {
	source := rand.New(rand.NewSource(seed))
	out := make([]byte, n)
	for i := range out {
		out[i] = byte(source.Intn(below))
	}
	return string(out)
}

// sentence is words in no order.
func sentence(n int, seed int64) string {
	words := strings.Fields("a log of batches packed replicated and answered within a bound what was acked is not lost " +
		"producers send records with keys consumers fetch by offset compaction keeps the last record of each key")
	source := rand.New(rand.NewSource(seed))
	var out strings.Builder
	for out.Len() < n {
		out.WriteString(words[source.Intn(len(words))] + " ")
	}
	return out.String()[:n]
}

// skewed is bytes of which each comes about half as often as the one ahead: some words of a code get as long as may be.
func skewed(n int, seed int64) string {
	source := rand.New(rand.NewSource(seed))
	out := make([]byte, n)
	for i := range out {
		b := byte(0)
		for b < 40 && source.Intn(2) == 1 {
			b++
		}
		out[i] = b * 6
	}
	return string(out)
}

// texts are of many kinds, so that all kinds of blocks, copies and codes come.
func texts() map[string]string {
	every := make([]byte, 256)
	for b := range every {
		every[b] = byte(b)
	}
	return map[string]string{
		"nothing":           "",
		"ends of bytes":     "\x00\xff",
		"a word again":      "hello hello hello",
		"every byte":        string(every),
		"every byte twice":  string(every) + string(every),
		"words":             sentence(5000, 1),
		"many words":        sentence(300000, 2),
		"noise":             noise(100000, 256, 3),
		"noise of few":      noise(100000, 3, 4),
		"noise of two":      noise(100000, 2, 5),
		"noise, no copies":  noise(90, 256, 6),
		"skewed":            skewed(50000, 7),
		"skewed, and long":  skewed(500000, 8),
		"skewed, then less": skewed(20000, 9) + sentence(20000, 10),
		"noughts":           strings.Repeat("\x00", 100000),
		"one copy's kind":   strings.Repeat("a", 1+258*4000),
		"mixed":             noise(50000, 256, 11) + sentence(50000, 12) + noise(70000, 256, 13),
		"far and wide":      noise(32768, 256, 14) + sentence(100, 15) + noise(32768, 256, 14),
		"runes":             strings.Repeat("æøå żółć 日本語 ", 300),
	}
}

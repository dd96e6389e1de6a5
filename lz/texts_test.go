package lz_test

import (
	"math/rand"
	"strings"
	"testing"

	"postroad/api"
	"postroad/lz"
)

// sequence is a sequence of a block; the last one has no copy.
type sequence struct {
	plain            string
	distance, length int
}

// sequencesOf are the sequences of a block that is whole; ok is false, if it is not.
func sequencesOf(block string) (out []sequence, ok bool) {
	defer func() {
		if recover() != nil {
			out, ok = nil, false
		}
	}()
	take := func(n int) string {
		piece := block[:n]
		block = block[n:]
		return piece
	}
	number := func(n int) int {
		for more := n == 15; more; {
			b := take(1)[0]
			n += int(b)
			more = b == 255
		}
		return n
	}
	for {
		head := int(take(1)[0])
		s := sequence{plain: take(number(head / 16))}
		if block == "" {
			return append(out, s), true
		}
		low := int(take(1)[0])
		s.distance = low + 256*int(take(1)[0])
		s.length = number(head%16) + 4
		out = append(out, s)
	}
}

// plainOf is what sequences tell.
func plainOf(sequences []sequence) string {
	var out []byte
	for _, s := range sequences {
		out = append(out, s.plain...)
		for range s.length {
			out = append(out, out[len(out)-s.distance])
		}
	}
	return string(out)
}

// packed packs a text, and holds the block to Lz2.
func packed(t *testing.T, name, s string) string {
	t.Helper()
	block, e := lz.Pack(s)
	if e != api.OK {
		t.Errorf("%q: %v", name, e)
		return ""
	}
	if plain, e := lz.Unpack(block, len(s)); plain != s || e != api.OK {
		t.Errorf("%q: unpacked it is another text, %v", name, e)
	}
	if n := len(s); len(block) > n+n/255+16 {
		t.Errorf("%q: %d bytes of %d", name, len(block), n)
	}
	sequences, ok := sequencesOf(block)
	if !ok || plainOf(sequences) != s {
		t.Errorf("%q: its sequences tell another text", name)
		return block
	}
	checkEnd(t, name, sequences)
	return block
}

// checkEnd looks at what stands at the end of a block that has a copy.
func checkEnd(t *testing.T, name string, sequences []sequence) {
	t.Helper()
	if len(sequences) == 1 {
		return
	}
	last, end := sequences[len(sequences)-2], len(sequences[len(sequences)-1].plain)
	if end < 5 {
		t.Errorf("%q: the last %d bytes are plain", name, end)
	}
	if last.length+end < 12 {
		t.Errorf("%q: the last copy begins %d bytes ahead of the end", name, last.length+end)
	}
}

// noise is bytes below a number, each as likely as the others.
func noise(n, below int, seed int64) string {
	source := rand.New(rand.NewSource(seed))
	out := make([]byte, n)
	for i := range out {
		out[i] = byte(source.Intn(below))
	}
	return string(out)
}

// mostlyOne is bytes of which most are the same.
func mostlyOne(n, others int, seed int64) string {
	source := rand.New(rand.NewSource(seed))
	out := []byte(strings.Repeat("a", n))
	for range others {
		out[source.Intn(n)]++
	}
	return string(out)
}

// sentence is words in no order.
func sentence(n int, seed int64) string {
	words := strings.Fields("a log of batches packed replicated and answered within a bound what was acked is not lost " +
		"producers send records with keys consumers fetch by offset compaction keeps the last record of each key")
	source := rand.New(rand.NewSource(seed))
	var out strings.Builder
	for out.Len() < n {
		out.WriteString(words[source.Intn(len(words))] + " ")
	}
	return out.String()[:n]
}

// texts are of many kinds, so that copies and numbers of all kinds come.
func texts() map[string]string {
	every := make([]byte, 256)
	for b := range every {
		every[b] = byte(b)
	}
	return map[string]string{
		"nothing":          "",
		"ends of bytes":    "\x00\xff",
		"a word again":     "hello hello hello hello hello",
		"every byte":       string(every),
		"every byte twice": string(every) + string(every),
		"words":            sentence(5000, 1),
		"many words":       sentence(300000, 2),
		"noise":            noise(100000, 256, 3),
		"noise of few":     noise(100000, 3, 4),
		"noise of two":     noise(100000, 2, 5),
		"noughts":          strings.Repeat("\x00", 100000),
		"mostly one":       mostlyOne(100000, 3000, 6),
		"mixed":            noise(50000, 256, 7) + sentence(50000, 8) + noise(70000, 256, 9),
		"far and wide":     noise(65536, 256, 10) + sentence(100, 11) + noise(65536, 256, 10),
		"runes":            strings.Repeat("æøå żółć 日本語 ", 300),
	}
}

// hardTexts meet the same bytes everywhere without being the same.
func hardTexts() map[string]string {
	var growing, comb strings.Builder
	for n := 0; growing.Len() < 500000; n = (n + 1) % 300 {
		growing.WriteString(strings.Repeat("a", n) + "b")
	}
	for n := 0; comb.Len() < 500000; n++ {
		comb.WriteString("abcabcabc" + string([]byte{byte(n), byte(n >> 8)}))
	}
	fibonacci, ahead := "a", "b"
	for len(fibonacci) < 500000 {
		fibonacci, ahead = fibonacci+ahead, fibonacci
	}
	return map[string]string{"growing": growing.String(), "comb": comb.String(), "fibonacci": fibonacci}
}

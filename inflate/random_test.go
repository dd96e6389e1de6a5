package inflate_test

import (
	"bytes"
	"compress/flate"
	"io"
	"slices"
	"strings"
	"testing"

	"postroad/api"
	"postroad/huff"
	"postroad/inflate"
)

// numbers gives numbers of all kinds, the same ones each time.
type numbers uint32

func (x *numbers) below(n int) int {
	*x = *x*1664525 + 1013904223
	return int(uint32(*x)>>8) % n
}

func (x *numbers) bytes(n int) string {
	out := make([]byte, n)
	for i := range out {
		out[i] = byte(x.below(256))
	}
	return string(out)
}

// maker puts blocks of all kinds together, as bits, and knows what they tell.
type maker struct {
	numbers
	text  strings.Builder
	plain []byte
}

// stream is some blocks, and their plain bytes.
func stream(seed int) (string, string) {
	m := &maker{numbers: numbers(seed)}
	blocks := 1 + m.below(5)
	for i := range blocks {
		last := low(0, 1)
		if i == blocks-1 {
			last = low(1, 1)
		}
		m.text.WriteString(last)
		switch m.below(3) {
		case 0:
			m.stored()
		case 1:
			m.fixed()
		default:
			m.told()
		}
	}
	return packed(m.text.String()), string(m.plain)
}

func (m *maker) stored() {
	m.text.WriteString(low(0, 2))
	for m.text.Len()%8 != 0 {
		m.text.WriteString(low(m.below(2), 1))
	}
	n := m.below(40)
	m.text.WriteString(low(n, 16) + low(65535-n, 16))
	for _, b := range []byte(m.bytes(n)) {
		m.text.WriteString(low(int(b), 8))
		m.plain = append(m.plain, b)
	}
}

func (m *maker) fixed() {
	m.text.WriteString(low(1, 2))
	symbols, distances := make([]string, manySymbols), make([]string, manyDistances)
	for symbol := range symbols {
		symbols[symbol] = fixedWord(symbol)
	}
	for d := range distances {
		distances[d] = high(d, 5)
	}
	m.symbols(symbols, distances)
}

func (m *maker) told() {
	symbols := m.code(257+m.below(30), endSymbol)
	distances := m.code(1+m.below(30), -1)
	first := m.firstCode()
	m.text.WriteString(low(2, 2) + counts(len(symbols), len(distances), 19) + firstLens(first, 19))
	of16, of17, of18 := 3+m.below(4), 3+m.below(8), 11+m.below(128)
	m.text.WriteString(runs(first, slices.Concat(symbols, distances), of16, of17, of18))
	m.symbols(words(symbols), words(distances))
}

// code are lengths of a whole code, of one word or of none; with a word of a symbol that must have one, and then whole.
func (m *maker) code(n, must int) []int {
	freqs := make([]int, n)
	rare := 1 + m.below(20)
	for i := range freqs {
		if m.below(rare) == 0 {
			freqs[i] = 1 << m.below(20)
		}
	}
	if must >= 0 {
		freqs[must], freqs['x'] = 1, 1
	}
	lens, e := huff.Lengths(freqs, api.MaxLen-m.below(6))
	if e != api.OK {
		panic("no lengths")
	}
	return lens
}

// firstCode are lengths of a first code that has words for all its symbols.
func (m *maker) firstCode() []int {
	freqs := make([]int, 19)
	for i := range freqs {
		freqs[i] = 1 << m.below(9)
	}
	lens, _ := huff.Lengths(freqs, 7)
	return lens
}

// symbols are plain bytes and copies by words, up to the block's end.
func (m *maker) symbols(symbols, distances []string) {
	for range m.below(60) {
		symbol := m.below(len(symbols))
		switch {
		case symbols[symbol] == "" || symbol == endSymbol:
		case symbol < endSymbol:
			m.text.WriteString(symbols[symbol])
			m.plain = append(m.plain, byte(symbol))
		default:
			m.copy(symbol, symbols[symbol], distances)
		}
	}
	m.text.WriteString(symbols[endSymbol])
}

func (m *maker) copy(symbol int, word string, distances []string) {
	d := m.below(len(distances))
	length, distance := copyLengths()[symbol-257], copyDistances()[d]
	moreLength, moreDistance := m.below(1<<length.more), m.below(1<<distance.more)
	if distances[d] == "" || distance.first+moreDistance > len(m.plain) {
		return
	}
	m.text.WriteString(word + low(moreLength, length.more) + distances[d] + low(moreDistance, distance.more))
	m.plain = []byte(copied(string(m.plain), length.first+moreLength, distance.first+moreDistance))
}

// library is what the library's reader tells of a stream: the plain bytes and how many bytes it read.
func library(s string) (string, int, error) {
	in := bytes.NewReader([]byte(s))
	plain, err := io.ReadAll(io.LimitReader(flate.NewReader(in), api.MaxPlain+1))
	return string(plain), len(s) - in.Len(), err
}

// wantStream: a stream is told as it is, whatever stands behind it; each beginning of it is too short; each room that
// is less than its plain bytes is too little.
func wantStream(t *testing.T, s, plain string, step int) {
	t.Helper()
	wantPlain(t, s, plain)
	want(t, s, api.MaxPlain, plain, len(s), api.OK)
	for _, behind := range []string{"\x00", "\xff", s, strings.Repeat("\x07", 20)} {
		want(t, s+behind, api.MaxPlain, plain, len(s), api.OK)
	}
	for n := 0; n < len(s); n += step {
		wantError(t, s[:n], api.MaxPlain, api.ErrShort)
	}
	for most := 0; most < len(plain); most += step {
		wantError(t, s, most, api.ErrLong)
	}
}

// If1, If2: streams of blocks of all kinds; the library reads them alike.
func TestIf1Streams(t *testing.T) {
	for seed := range 400 {
		s, plain := stream(seed)
		if got, taken, err := library(s); got != plain || taken != len(s) || err != nil {
			t.Fatalf("stream %d is none: %s %d %v", seed, short(got), taken, err)
		}
		wantStream(t, s, plain, 1+len(s)/50)
	}
}

// If1: what the library writes.
func TestIf1LibraryStreams(t *testing.T) {
	var x numbers
	texts := []string{
		"", "a", "abc", strings.Repeat("abc", 1000), strings.Repeat("\x00", 70000), x.bytes(300), x.bytes(70000),
		strings.Repeat(x.bytes(500), 9) + x.bytes(500), strings.Repeat(x.bytes(32768), 2),
	}
	for _, plain := range texts {
		for level := flate.HuffmanOnly; level <= flate.BestCompression; level++ {
			var out bytes.Buffer
			w, err := flate.NewWriter(&out, level)
			if err != nil {
				t.Fatal(err)
			}
			w.Write([]byte(plain))
			w.Close()
			wantStream(t, out.String(), plain, 1+max(out.Len(), len(plain))/9)
		}
	}
}

// If2, R1: whatever bytes there are, there is an answer, the same one each time; a stream that is taken the library
// takes alike.
func TestIf2AnyBytes(t *testing.T) {
	var x numbers
	for seed := range 3000 {
		s, _ := stream(seed % 300)
		if seed%10 == 0 {
			s = x.bytes(x.below(200))
		}
		changed := []byte(s)
		for range min(len(s), 1+x.below(3)) {
			changed[x.below(len(s))] ^= 1 << x.below(8)
		}
		wantAnswer(t, string(changed))
	}
}

// If2, R1: all bytes alone, and by twos.
func TestIf2FewBytes(t *testing.T) {
	for a := range 256 {
		wantAnswer(t, string([]byte{byte(a)}))
		for b := range 256 {
			wantAnswer(t, string([]byte{byte(a), byte(b)}))
		}
	}
}

func wantAnswer(t *testing.T, s string) {
	t.Helper()
	plain, taken, e := inflate.Inflate(s, api.MaxPlain)
	switch e {
	case api.OK:
		if want, wantTaken, err := library(s); plain != want || taken != wantTaken || err != nil {
			t.Errorf("%q: %s %d, want %s %d %v", s, short(plain), taken, short(want), wantTaken, err)
		}
	case api.ErrShort, api.ErrDeflate, api.ErrLong:
		if plain != "" || taken != 0 {
			t.Errorf("%q: %d, and %s %d beside it", s, e, short(plain), taken)
		}
	default:
		t.Errorf("%q: %d", s, e)
	}
	want(t, s, api.MaxPlain, plain, taken, e)
}

// If2: it ends, at many blocks that tell nothing, too.
func TestIf2ManyBlocks(t *testing.T) {
	empties := packed(strings.Repeat(nextFixed+fixedEnd, 4*50000))
	wantError(t, empties, 0, api.ErrShort)
	want(t, empties+"\x03\x00\x07", 0, "", len(empties)+2, api.OK)
	wantError(t, empties+"\x07", 0, api.ErrDeflate)
	stored := strings.Repeat("\x00\x00\x00\xff\xff", 50000)
	wantError(t, stored, 0, api.ErrShort)
	want(t, stored+"\x01\x01\x00\xfe\xff!!", 1, "!", len(stored)+6, api.OK)
	told := packed(nextTold + told(some(257, map[int]int{0: 1, endSymbol: 1}), []int{0}) + "1" + nextStored)
	many := strings.Repeat(told+"\x00\x00\xff\xff", 2000)
	wantError(t, many, 0, api.ErrShort)
	want(t, many+"\x03\x00", 0, "", len(many)+2, api.OK)
}

package inflate_test

import (
	"slices"
	"strings"
	"testing"

	"postroad/api"
	"postroad/huff"
	"postroad/inflate"
)

// Streams are put together here as texts of 0 and 1, in the order in which bits are read.

// low is a number's bits, the lowest first.
func low(x, n int) string {
	var out strings.Builder
	for i := range n {
		out.WriteByte('0' + byte(x>>i&1))
	}
	return out.String()
}

// high is a word's bits, the highest first.
func high(x, n int) string {
	text := []byte(low(x, n))
	slices.Reverse(text)
	return string(text)
}

// packed are bits as bytes, with noughts behind them.
func packed(text string) string {
	out := make([]byte, (len(text)+7)/8)
	for i := range len(text) {
		out[i/8] |= (text[i] - '0') << (i % 8)
	}
	return string(out)
}

// The heads of blocks: the bit of the last one, and the kind.
const (
	lastStored    = "1" + "00"
	nextStored    = "0" + "00"
	lastFixed     = "1" + "10"
	nextFixed     = "0" + "10"
	lastTold      = "1" + "01"
	nextTold      = "0" + "01"
	lastNoKind    = "1" + "11"
	fixedEnd      = "0000000"
	endSymbol     = 256
	manySymbols   = 286
	manyDistances = 30
)

// fixedWord is a symbol's word by the fixed code.
func fixedWord(symbol int) string {
	switch {
	case symbol < 144:
		return high(0b00110000+symbol, 8)
	case symbol < 256:
		return high(0b110010000+symbol-144, 9)
	case symbol < 280:
		return high(symbol-256, 7)
	}
	return high(0b11000000+symbol-280, 8)
}

// exactly are bytes whose last bit is the last one of a text: ahead of it stands a fixed block of so many plain bytes
// as let it end there.
func exactly(text string) (string, int) {
	for plain := range 8 {
		ahead := nextFixed + strings.Repeat(fixedWord(255), plain) + fixedEnd
		if (len(ahead)+len(text))%8 == 0 {
			return packed(ahead + text), plain
		}
	}
	panic("no number of plain bytes does")
}

// span is numbers from a first one on, that so many more bits tell.
type span struct{ first, more int }

// copyLengths are those of the symbols 257 on, as the chapter lists them.
func copyLengths() []span {
	return []span{{3, 0}, {4, 0}, {5, 0}, {6, 0}, {7, 0}, {8, 0}, {9, 0}, {10, 0},
		{11, 1}, {13, 1}, {15, 1}, {17, 1}, {19, 2}, {23, 2}, {27, 2}, {31, 2},
		{35, 3}, {43, 3}, {51, 3}, {59, 3}, {67, 4}, {83, 4}, {99, 4}, {115, 4},
		{131, 5}, {163, 5}, {195, 5}, {227, 5}, {258, 0}}
}

// copyDistances are those of the symbols 0 on.
func copyDistances() []span {
	return []span{{1, 0}, {2, 0}, {3, 0}, {4, 0}, {5, 1}, {7, 1}, {9, 2}, {13, 2}, {17, 3}, {25, 3},
		{33, 4}, {49, 4}, {65, 5}, {97, 5}, {129, 6}, {193, 6}, {257, 7}, {385, 7}, {513, 8}, {769, 8},
		{1025, 9}, {1537, 9}, {2049, 10}, {3073, 10}, {4097, 11}, {6145, 11}, {8193, 12}, {12289, 12},
		{16385, 13}, {24577, 13}}
}

// spanOf is the last symbol of a list that tells a number, and the bits behind its word.
func spanOf(spans []span, n int) (int, string) {
	symbol := len(spans) - 1
	for n < spans[symbol].first {
		symbol--
	}
	return symbol, low(n-spans[symbol].first, spans[symbol].more)
}

// fixedCopy is a copy by the fixed code.
func fixedCopy(length, distance int) string {
	l, lengthBits := spanOf(copyLengths(), length)
	d, distanceBits := spanOf(copyDistances(), distance)
	return fixedWord(257+l) + lengthBits + high(d, 5) + distanceBits
}

// copied is a text with a copy behind it.
func copied(plain string, length, distance int) string {
	out := []byte(plain)
	for range length {
		out = append(out, out[len(out)-distance])
	}
	return string(out)
}

// words are a code's words as texts.
func words(lens []int) []string {
	numbers, e := huff.Codes(lens)
	if e != api.OK {
		panic("no lengths of a code")
	}
	out := make([]string, len(lens))
	for symbol, l := range lens {
		out[symbol] = high(numbers[symbol], l)
	}
	return out
}

// some are n lengths, noughts but for those that are named.
func some(n int, named map[int]int) []int {
	lens := make([]int, n)
	for symbol, l := range named {
		lens[symbol] = l
	}
	return lens
}

// firstOrder is the order in which the first code's lengths stand.
func firstOrder() []int {
	return []int{16, 17, 18, 0, 8, 7, 9, 6, 10, 5, 11, 4, 12, 3, 13, 2, 14, 1, 15}
}

// anyFirst are lengths of a first code that has words for all its 19 symbols.
func anyFirst() []int {
	return []int{4, 4, 4, 4, 4, 4, 4, 4, 4, 4, 4, 4, 4, 5, 5, 5, 5, 5, 5}
}

// counts are the three numbers at the beginning of a told block.
func counts(symbols, distances, firsts int) string {
	return low(symbols-257, 5) + low(distances-1, 5) + low(firsts-4, 4)
}

// firstLens are the first code's lengths, so many of them.
func firstLens(lens []int, firsts int) string {
	text := ""
	for _, symbol := range firstOrder()[:firsts] {
		text += low(lens[symbol], 3)
	}
	return text
}

// one is a symbol of the first code, with the bits behind its word.
func one(first []int, symbol, more int) string {
	behind := map[int]int{16: 2, 17: 3, 18: 7}
	return words(first)[symbol] + low(more, behind[symbol])
}

// each are lengths, one by one.
func each(first, lens []int) string {
	text := ""
	for _, l := range lens {
		text += one(first, l, 0)
	}
	return text
}

// told is what stands ahead of a told block's symbols, its kind left out, with each length written by itself.
func told(symbols, distances []int) string {
	return counts(len(symbols), len(distances), 19) + firstLens(anyFirst(), 19) +
		each(anyFirst(), symbols) + each(anyFirst(), distances)
}

// want holds what Inflate answers against what it should; beside an error there is nothing.
func want(t *testing.T, s string, most int, plain string, taken int, e api.Errno) {
	t.Helper()
	gotPlain, gotTaken, gotE := inflate.Inflate(s, most)
	if gotPlain != plain || gotTaken != taken || gotE != e {
		t.Errorf("Inflate(%s, %d): %s %d %d, want %s %d %d",
			short(s), most, short(gotPlain), gotTaken, gotE, short(plain), taken, e)
	}
}

func wantError(t *testing.T, s string, most int, e api.Errno) {
	t.Helper()
	want(t, s, most, "", 0, e)
}

// wantPlain asks for all bytes of a stream, by just enough room.
func wantPlain(t *testing.T, s, plain string) {
	t.Helper()
	want(t, s, len(plain), plain, len(s), api.OK)
}

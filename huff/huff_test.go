package huff_test

import (
	"container/heap"
	"math"
	"slices"
	"strings"
	"testing"

	"postroad/api"
	"postroad/bits"
	"postroad/huff"
)

const (
	maxInt  = math.MaxInt64
	minInt  = math.MinInt64
	maxFreq = 1 << 40
)

// numbers gives numbers of all kinds, the same ones each time.
type numbers uint32

func (x *numbers) below(n int) int {
	*x = *x*1664525 + 1013904223
	return int(uint32(*x)>>8) % n
}

// codeLens are lengths of a code, whole or not, with symbols that have none among them.
func (x *numbers) codeLens(symbols int) []int {
	lens := make([]int, symbols)
	left := 1 << api.MaxLen
	for i := range lens {
		l := x.below(api.MaxLen + 1)
		if l > 0 && left >= 1<<(api.MaxLen-l) {
			lens[i] = l
			left -= 1 << (api.MaxLen - l)
		}
	}
	return lens
}

// texts are a code's words as texts of 0 and 1, "" of none: of each symbol in the order of lengths, then of symbols,
// the first text of its length that neither begins with a text ahead nor begins one.
func texts(lens []int) []string {
	out := make([]string, len(lens))
	free := "" // the first place that is free, as bits
	for l := 1; l <= api.MaxLen; l++ {
		for symbol := range lens {
			if lens[symbol] != l {
				continue
			}
			out[symbol] = free + strings.Repeat("0", l-len(free))
			free = behind(out[symbol])
		}
	}
	return out
}

// behind is the shortest text that begins right behind all that begin with a text.
func behind(text string) string {
	text = strings.TrimRight(text, "1")
	if text == "" {
		return ""
	}
	return text[:len(text)-1] + "1"
}

func number(text string) int {
	n := 0
	for i := range len(text) {
		n = 2*n + int(text[i]-'0')
	}
	return n
}

// reader reads bits that are told as a text, with no bit behind them that is not there: it stands so far on in whole
// bytes that just these are left.
func reader(t *testing.T, text string) *bits.Reader {
	t.Helper()
	w := bits.NewWriter()
	ahead := (8 - len(text)%8) % 8
	w.Bits(0, ahead)
	for i := range len(text) {
		w.Bits(int(text[i]-'0'), 1)
	}
	r := bits.NewReader(w.Done())
	if _, e := r.Bits(ahead); e != api.OK {
		t.Fatal(e)
	}
	return r
}

// written are a writer's bits as a text.
func written(w *bits.Writer) string {
	s := w.Done()
	var out strings.Builder
	for i := range w.Place() {
		out.WriteByte('0' + s[i/8]>>(i%8)&1)
	}
	return out.String()
}

func wantCodes(t *testing.T, lens, want []int, e api.Errno) {
	t.Helper()
	if got, gotE := huff.Codes(lens); !slices.Equal(got, want) || gotE != e {
		t.Errorf("Codes(%v): %v %d, want %v %d", lens, got, gotE, want, e)
	}
}

func wantWhole(t *testing.T, lens []int, want bool, e api.Errno) {
	t.Helper()
	if got, gotE := huff.Whole(lens); got != want || gotE != e {
		t.Errorf("Whole(%v): %v %d, want %v %d", lens, got, gotE, want, e)
	}
}

func wantCost(t *testing.T, freqs, lens []int, want int, e api.Errno) {
	t.Helper()
	if got, gotE := huff.Cost(freqs, lens); got != want || gotE != e {
		t.Errorf("Cost(%v, %v): %d %d, want %d %d", freqs, lens, got, gotE, want, e)
	}
}

func wantLengths(t *testing.T, freqs []int, most int, want []int, e api.Errno) {
	t.Helper()
	if got, gotE := huff.Lengths(freqs, most); !slices.Equal(got, want) || gotE != e {
		t.Errorf("Lengths(%v, %d): %v %d, want %v %d", freqs, most, got, gotE, want, e)
	}
}

func wantSymbol(t *testing.T, x *huff.Table, r *bits.Reader, want int, e api.Errno) {
	t.Helper()
	if got, gotE := x.Symbol(r); got != want || gotE != e {
		t.Errorf("Symbol: %d %d, want %d %d", got, gotE, want, e)
	}
}

func wantPut(t *testing.T, x *huff.Table, w *bits.Writer, symbol int, e api.Errno) {
	t.Helper()
	if got := x.Put(w, symbol); got != e {
		t.Errorf("Put(%d): %d, want %d", symbol, got, e)
	}
}

func newTable(t *testing.T, lens []int) *huff.Table {
	t.Helper()
	x, e := huff.NewTable(lens)
	if x == nil || e != api.OK {
		t.Fatalf("NewTable(%v): %v %d", lens, x, e)
	}
	return x
}

// alike is as many lengths as asked for, all the same.
func alike(l, symbols int) []int { return slices.Repeat([]int{l}, symbols) }

// fixedLens are the lengths of DEFLATE's fixed code.
func fixedLens() []int {
	return slices.Concat(alike(8, 144), alike(9, 112), alike(7, 24), alike(8, 8))
}

// stairs are the lengths 1 to 15, and 15 once more.
func stairs() []int {
	var lens []int
	for l := range api.MaxLen {
		lens = append(lens, l+1)
	}
	return append(lens, api.MaxLen)
}

// wrongLens are lengths that may not be, or are of no code.
func wrongLens() [][]int {
	return [][]int{
		{-1}, {16}, {1, -1}, {1, 1, 16}, {minInt}, {maxInt}, {0, 0, -15}, {1 << 32}, {2, 2, 2, 17},
		alike(0, 289), alike(9, 289), append(fixedLens(), 0), alike(0, 1000),
		{1, 1, 1}, {1, 1, 15}, {1, 2, 2, 15}, {2, 2, 2, 2, 2}, alike(8, 257), alike(1, 288),
		append(stairs(), 15), append([]int{15}, stairs()...), append(fixedLens()[:287], 7),
	}
}

// Hu1: the chapter's example.
func TestHu1Example(t *testing.T) {
	wantCodes(t, []int{2, 1, 3, 3}, []int{2, 0, 6, 7}, api.OK)
	wantWhole(t, []int{2, 1, 3, 3}, true, api.OK)
	wantCost(t, []int{5, 1, 1}, []int{1, 2, 2}, 9, api.OK)
}

// Hu1: no symbols, symbols without words, a code that is not whole, the least and the greatest lengths.
func TestHu1CodesEdges(t *testing.T) {
	wantCodes(t, nil, nil, api.OK)
	wantCodes(t, []int{}, nil, api.OK)
	wantCodes(t, []int{0, 0, 0}, []int{0, 0, 0}, api.OK)
	wantCodes(t, []int{1}, []int{0}, api.OK)
	wantCodes(t, []int{0, 1, 0, 1}, []int{0, 0, 0, 1}, api.OK)
	wantCodes(t, []int{15}, []int{0}, api.OK)
	wantCodes(t, []int{15, 1, 15}, []int{1 << 14, 0, 1<<14 + 1}, api.OK)
	wantCodes(t, []int{3, 3, 3, 3, 3, 2, 4, 4}, []int{2, 3, 4, 5, 6, 0, 14, 15}, api.OK)
	words, e := huff.Codes(stairs())
	if e != api.OK || words[13] != 1<<14-2 || words[14] != 1<<15-2 || words[15] != 1<<15-1 {
		t.Errorf("Codes of stairs: %v %d", words, e)
	}
}

// Hu1: the fixed code, of as many symbols as may be, has the words that DEFLATE tells.
func TestHu1CodesFixed(t *testing.T) {
	words, e := huff.Codes(fixedLens())
	if e != api.OK || len(words) != api.MaxSymbols {
		t.Fatal(len(words), e)
	}
	for symbol, word := range words {
		want := 0
		switch {
		case symbol < 144:
			want = 0b00110000 + symbol
		case symbol < 256:
			want = 0b110010000 + symbol - 144
		case symbol < 280:
			want = symbol - 256
		default:
			want = 0b11000000 + symbol - 280
		}
		if word != want {
			t.Errorf("symbol %d: %b, want %b", symbol, word, want)
		}
	}
	wantWhole(t, fixedLens(), true, api.OK)
}

// Hu1: words of many codes, held against texts of bits.
func TestHu1CodesMany(t *testing.T) {
	x := numbers(1)
	for range 400 {
		lens := x.codeLens(x.below(api.MaxSymbols + 1))
		want := make([]int, len(lens))
		for symbol, text := range texts(lens) {
			want[symbol] = number(text)
		}
		wantCodes(t, lens, want, api.OK)
	}
}

// Hu1: a code is whole if its share is 1: not a word fewer.
func TestHu1Whole(t *testing.T) {
	for _, lens := range [][]int{{1, 1}, {0, 1, 0, 1}, {1, 2, 2}, stairs(), alike(8, 256), {3, 3, 3, 3, 3, 2, 4, 4}} {
		wantWhole(t, lens, true, api.OK)
		for symbol, l := range lens {
			fewer := slices.Clone(lens)
			fewer[symbol] = 0
			if l > 0 {
				wantWhole(t, fewer, false, api.OK)
			}
			fewer[symbol] = min(l+1, api.MaxLen)
			if l > 0 && l < api.MaxLen {
				wantWhole(t, fewer, false, api.OK)
			}
		}
	}
	for _, lens := range [][]int{nil, {}, {0}, alike(0, 288), {1}, {15}, alike(9, 288), alike(15, 288)} {
		wantWhole(t, lens, false, api.OK)
	}
}

// Hu1: lengths that may not be, or are of no code, are refused by all.
func TestHu1WrongLens(t *testing.T) {
	for _, lens := range wrongLens() {
		wantCodes(t, lens, nil, api.ErrLens)
		wantWhole(t, lens, false, api.ErrLens)
		wantCost(t, make([]int, len(lens)), lens, 0, api.ErrLens)
		wantCost(t, alike(1, len(lens)), lens, 0, api.ErrLens)
	}
}

// Hu1: what symbols cost; of one that does not come a word costs nothing, and none is asked for.
func TestHu1Cost(t *testing.T) {
	wantCost(t, nil, nil, 0, api.OK)
	wantCost(t, []int{}, nil, 0, api.OK)
	wantCost(t, []int{0, 0}, []int{0, 0}, 0, api.OK)
	wantCost(t, []int{0, 0}, []int{0, 15}, 0, api.OK)
	wantCost(t, []int{7}, []int{15}, 105, api.OK)
	wantCost(t, []int{1, 10, 100, 1000}, []int{2, 1, 3, 3}, 2+10+300+3000, api.OK)
	wantCost(t, []int{1, 0, 100, 1000}, []int{2, 0, 3, 3}, 2+300+3000, api.OK)
	wantCost(t, []int{maxFreq}, []int{1}, maxFreq, api.OK)
	wantCost(t, alike(maxFreq, 288), alike(15, 288), maxFreq*288*15, api.OK)
}

// Hu1: what Cost refuses, and which error comes first.
func TestHu1CostWrong(t *testing.T) {
	wantCost(t, []int{1}, nil, 0, api.ErrArg)
	wantCost(t, nil, []int{1}, 0, api.ErrArg)
	wantCost(t, []int{1, 1}, []int{1}, 0, api.ErrArg)
	wantCost(t, []int{1, 1}, []int{1, 1, 1}, 0, api.ErrArg)
	for _, f := range []int{-1, maxFreq + 1, minInt, maxInt} {
		wantCost(t, []int{f}, []int{1}, 0, api.ErrArg)
		wantCost(t, []int{1, 1, f}, []int{1, 2, 2}, 0, api.ErrArg)
		wantCost(t, []int{f}, []int{0}, 0, api.ErrArg)
		wantCost(t, []int{f, 1, 1}, []int{1, 1, 1}, 0, api.ErrArg)
		wantCost(t, append(alike(1, 288), f), alike(16, 289), 0, api.ErrArg)
	}
	wantCost(t, []int{1}, []int{16, 16}, 0, api.ErrArg)
	wantCost(t, []int{1}, []int{0}, 0, api.ErrLens)
	wantCost(t, []int{1, 0, 1}, []int{1, 1, 0}, 0, api.ErrLens)
	wantCost(t, []int{maxFreq, 1}, []int{0, 1}, 0, api.ErrLens)
}

// leastCost is the least cost of a whole code of two symbols or more that come so often, none of its words above a
// limit: at each depth so many nodes are open, so many of them are words of the most frequent symbols left, and the
// others have two nodes each below them. All symbols left take a bit more at each depth.
func leastCost(freqs []int, most int) int {
	come := slices.DeleteFunc(slices.Clone(freqs), func(f int) bool { return f == 0 })
	slices.Sort(come)
	slices.Reverse(come)
	n := len(come)
	rest := make([]int, n+1) // of the symbols from one on
	for i := n - 1; i >= 0; i-- {
		rest[i] = rest[i+1] + come[i]
	}
	const never = maxInt / 2
	var below [][]int // by how many symbols have words, and how many nodes are open, a depth below
	for depth := most; depth >= 0; depth-- {
		now := make([][]int, n+1)
		for had := range n + 1 {
			now[had] = alike(never, n-had+1)
			for open := range now[had] {
				for words := 0; words <= open; words++ {
					left, nodes := n-had-words, 2*(open-words)
					switch {
					case left == 0 && nodes == 0:
						now[had][open] = 0
					case below != nil && nodes > 0 && nodes <= left:
						now[had][open] = min(now[had][open], rest[had+words]+below[had+words][nodes])
					}
				}
			}
		}
		below = now
	}
	return below[0][1]
}

// weights are a heap of how often symbols come.
type weights []int

func (h weights) Len() int           { return len(h) }
func (h weights) Less(i, j int) bool { return h[i] < h[j] }
func (h weights) Swap(i, j int)      { h[i], h[j] = h[j], h[i] }
func (h *weights) Push(x any)        { *h = append(*h, x.(int)) }
func (h *weights) Pop() any {
	last := len(*h) - 1
	x := (*h)[last]
	*h = (*h)[:last]
	return x
}

// huffmanCost is the least cost of a code without a limit: the two rarest are put together, again and again.
func huffmanCost(freqs []int) int {
	h := weights(slices.DeleteFunc(slices.Clone(freqs), func(f int) bool { return f == 0 }))
	heap.Init(&h)
	cost := 0
	for len(h) > 1 {
		both := heap.Pop(&h).(int) + heap.Pop(&h).(int)
		cost += both
		heap.Push(&h, both)
	}
	return cost
}

// wantBest asks for lengths of a whole code, none above the limit, with a cost.
func wantBest(t *testing.T, freqs []int, most, cost int) {
	t.Helper()
	lens, e := huff.Lengths(freqs, most)
	if e != api.OK || len(lens) != len(freqs) {
		t.Fatalf("Lengths(%v, %d): %v %d", freqs, most, lens, e)
	}
	for symbol, l := range lens {
		if l < 0 || l > most || (l == 0) != (freqs[symbol] == 0) {
			t.Errorf("Lengths(%v, %d): %v: %d of symbol %d", freqs, most, lens, l, symbol)
		}
	}
	wantWhole(t, lens, true, api.OK)
	wantCost(t, freqs, lens, cost, api.OK)
}

func fibonacci(n int) []int {
	out := []int{1, 1}
	for len(out) < n {
		out = append(out, out[len(out)-1]+out[len(out)-2])
	}
	return out[:n]
}

// Hu2: the chapter's example, and others of which there is one answer alone.
func TestHu2Known(t *testing.T) {
	wantLengths(t, []int{5, 1, 1}, 3, []int{1, 2, 2}, api.OK)
	wantLengths(t, []int{5, 1, 1, 0}, 3, []int{1, 2, 2, 0}, api.OK)
	wantLengths(t, []int{1, 0, 5, 1}, 15, []int{2, 0, 1, 2}, api.OK)
	wantLengths(t, []int{3, 9}, 1, []int{1, 1}, api.OK)
	wantLengths(t, []int{1, maxFreq}, 15, []int{1, 1}, api.OK)
	wantLengths(t, []int{16, 8, 4, 2, 1}, 4, []int{1, 2, 3, 4, 4}, api.OK)
	wantLengths(t, []int{1, 10, 100, 1000}, 2, []int{2, 2, 2, 2}, api.OK)
	wantLengths(t, alike(7, 256), 8, alike(8, 256), api.OK)
	wantLengths(t, alike(maxFreq, 256), 15, alike(8, 256), api.OK)
	wantLengths(t, []int{1 << 30, 1 << 20, 1 << 10, 1, 0, 1 << 5}, 3, []int{1, 3, 3, 3, 0, 3}, api.OK)
}

// Hu2: none that comes, one that comes alone, wherever it stands and however often it comes.
func TestHu2FewCome(t *testing.T) {
	for most := 1; most <= api.MaxLen; most++ {
		wantLengths(t, nil, most, nil, api.OK)
		wantLengths(t, []int{}, most, nil, api.OK)
		wantLengths(t, []int{0}, most, []int{0}, api.OK)
		wantLengths(t, alike(0, 288), most, alike(0, 288), api.OK)
		for _, f := range []int{1, 2, 1000, maxFreq} {
			wantLengths(t, []int{f}, most, []int{1}, api.OK)
			wantLengths(t, []int{0, 0, f, 0}, most, []int{0, 0, 1, 0}, api.OK)
			freqs, want := alike(0, 288), alike(0, 288)
			freqs[287], want[287] = f, 1
			wantLengths(t, freqs, most, want, api.OK)
		}
	}
}

// Hu2: as many as just fit below the limit have it all, however unlike they are; one more is refused.
func TestHu2AsManyAsFit(t *testing.T) {
	x := numbers(2)
	for most := 1; most <= 8; most++ {
		freqs := make([]int, 1<<most)
		for i := range freqs {
			freqs[i] = 1 << x.below(41)
		}
		wantLengths(t, freqs, most, alike(most, len(freqs)), api.OK)
		wantLengths(t, append(alike(0, 3), freqs...), most, append(alike(0, 3), alike(most, len(freqs))...), api.OK)
		more := append(slices.Clone(freqs), 1)
		wantLengths(t, more, most, nil, api.ErrArg)
		wantBest(t, more, most+1, leastCost(more, most+1))
	}
	wantLengths(t, alike(1, 288), 8, nil, api.ErrArg)
	wantBest(t, alike(1, 288), 9, 224*8+64*9)
}

// Hu2: what Lengths refuses.
func TestHu2Wrong(t *testing.T) {
	for _, most := range []int{0, -1, 16, 63, 64, minInt, maxInt} {
		wantLengths(t, []int{5, 1, 1}, most, nil, api.ErrArg)
		wantLengths(t, nil, most, nil, api.ErrArg)
		wantLengths(t, []int{1}, most, nil, api.ErrArg)
	}
	for _, f := range []int{-1, maxFreq + 1, minInt, maxInt} {
		wantLengths(t, []int{f}, 3, nil, api.ErrArg)
		wantLengths(t, []int{1, 2, f}, 3, nil, api.ErrArg)
		wantLengths(t, []int{f, 1, 2, 0}, 15, nil, api.ErrArg)
	}
	wantLengths(t, alike(0, 289), 15, nil, api.ErrArg)
	wantLengths(t, alike(1, 289), 15, nil, api.ErrArg)
	wantLengths(t, []int{1, 1, 1}, 1, nil, api.ErrArg)
	wantLengths(t, []int{1, 0, 1, 1, 1, 1}, 2, nil, api.ErrArg)
	wantBest(t, append(alike(1, 287), maxFreq), 15, leastCost(append(alike(1, 287), maxFreq), 15))
}

// Hu2: few symbols of all small frequencies, at each limit.
func TestHu2SmallBest(t *testing.T) {
	freqs := make([]int, 5)
	for i := range 5 * 5 * 5 * 5 * 5 {
		for at, rest := 0, i; at < len(freqs); at, rest = at+1, rest/5 {
			freqs[at] = []int{0, 1, 2, 5, 40}[rest%5]
		}
		come := len(freqs) - strings.Count(string(bytesOf(freqs)), "\x00")
		for most := 1; most <= 5 && come >= 2; most++ {
			if come <= 1<<most {
				wantBest(t, freqs, most, leastCost(freqs, most))
			}
		}
	}
}

func bytesOf(small []int) []byte {
	var out []byte
	for _, n := range small {
		out = append(out, byte(n))
	}
	return out
}

// Hu2: frequencies that grow as fast as a tree's depth, with each limit in the way, and none.
func TestHu2SteepBest(t *testing.T) {
	for n := 2; n <= 50; n += 3 {
		freqs := fibonacci(n)
		if n > 2 {
			freqs[n/2], freqs[0] = freqs[0], freqs[n/2]
		}
		for i := range freqs {
			freqs[i] = min(freqs[i], maxFreq)
		}
		for most := 1; most <= api.MaxLen; most++ {
			if n <= 1<<most {
				wantBest(t, freqs, most, leastCost(freqs, most))
			}
		}
	}
	wantBest(t, []int{1, 1, 2, 3, 5, 8, 13, 21}, 4, 135)
	wantBest(t, fibonacci(16), 15, huffmanCost(fibonacci(16)))
}

// Hu2: many symbols, of frequencies of all sizes.
func TestHu2ManyBest(t *testing.T) {
	x := numbers(3)
	for i := range 60 {
		freqs := make([]int, 2+x.below(60))
		for at := range freqs {
			freqs[at] = x.below(1 << (1 + x.below(20)))
		}
		freqs[0], freqs[1] = max(1, freqs[0]), max(1, freqs[1])
		most := 6 + i%10
		wantBest(t, freqs, most, leastCost(freqs, most))
	}
	full := make([]int, api.MaxSymbols)
	for i := range full {
		full[i] = 1 << (i % 41)
	}
	for _, most := range []int{9, 10, 15} {
		wantBest(t, full, most, leastCost(full, most))
	}
}

// Hu2: where no limit is in the way, the cost is that of Huffman's code.
func TestHu2NoLimitInTheWay(t *testing.T) {
	x := numbers(4)
	for range 100 {
		freqs := make([]int, 2+x.below(api.MaxSymbols-1))
		for at := range freqs {
			freqs[at] = 100 + x.below(1000)
		}
		wantBest(t, freqs, api.MaxLen, huffmanCost(freqs))
	}
}

// Hu3: the words of the chapter's example, written and read.
func TestHu3Example(t *testing.T) {
	x := newTable(t, []int{2, 1, 3, 3})
	w := bits.NewWriter()
	for symbol := range 4 {
		wantPut(t, x, w, symbol, api.OK)
	}
	if got := written(w); got != "10"+"0"+"110"+"111" {
		t.Errorf("written: %s", got)
	}
	r := bits.NewReader(w.Done())
	for symbol, place := range []int{2, 3, 6, 9} {
		wantSymbol(t, x, r, symbol, api.OK)
		if r.Place() != place {
			t.Errorf("behind symbol %d the reader stands at %d, want %d", symbol, r.Place(), place)
		}
	}
}

// Hu3: a word is put where the writer stands, and taken where the reader stands.
func TestHu3Amid(t *testing.T) {
	x := newTable(t, stairs())
	w := bits.NewWriter()
	w.Bits(5, 3)
	wantPut(t, x, w, 15, api.OK)
	w.Bits(2, 2)
	wantPut(t, x, w, 0, api.OK)
	r := bits.NewReader(w.Done())
	r.Bits(3)
	wantSymbol(t, x, r, 15, api.OK)
	if n, e := r.Bits(2); n != 2 || e != api.OK {
		t.Error(n, e)
	}
	wantSymbol(t, x, r, 0, api.OK)
	if r.Place() != 21 || w.Place() != 21 {
		t.Error(r.Place(), w.Place())
	}
}

// wantRead holds what is read of bits against the words' texts: one bit more at a time.
func wantRead(t *testing.T, x *huff.Table, words []string, text string) {
	t.Helper()
	for n := 0; ; n++ {
		begun := false
		for symbol, word := range words {
			if word != "" && word == text[:n] {
				wantSymbol(t, x, reader(t, text), symbol, api.OK)
				return
			}
			begun = begun || word != "" && strings.HasPrefix(word, text[:n])
		}
		if !begun {
			wantSymbol(t, x, reader(t, text), 0, api.ErrLens)
			return
		}
		if n == len(text) {
			wantSymbol(t, x, reader(t, text), 0, api.ErrShort)
			return
		}
	}
}

// Hu3: all texts of up to six bits, by codes whole and not: symbols, and bits that are none or too few.
func TestHu3AllTexts(t *testing.T) {
	all := []string{""}
	for i := 0; len(all[i]) < 6; i++ {
		all = append(all, all[i]+"0", all[i]+"1")
	}
	x := numbers(5)
	codes := [][]int{nil, {0, 0}, {1}, {0, 1}, {1, 1}, {2}, {2, 2, 2}, {1, 3}, {5, 5, 5}, {3, 1, 3}, {2, 0, 4, 6, 6},
		{6}, stairs()}
	for range 100 {
		lens := x.codeLens(1 + x.below(12))
		for i := range lens {
			lens[i] = min(lens[i], 7)
		}
		if _, e := huff.Codes(lens); e == api.OK {
			codes = append(codes, lens)
		}
	}
	for _, lens := range codes {
		table, words := newTable(t, lens), texts(lens)
		for _, text := range all {
			wantRead(t, table, words, text)
		}
	}
}

// Hu3: bits are refused as soon as no word begins with them, be there others or not; of no words at all ahead of any.
func TestHu3AsSoon(t *testing.T) {
	wantSymbol(t, newTable(t, []int{2}), reader(t, "1"), 0, api.ErrLens)
	wantSymbol(t, newTable(t, []int{2}), reader(t, "01"), 0, api.ErrLens)
	wantSymbol(t, newTable(t, []int{2}), reader(t, "0"), 0, api.ErrShort)
	wantSymbol(t, newTable(t, []int{2}), reader(t, ""), 0, api.ErrShort)
	wantSymbol(t, newTable(t, []int{15}), reader(t, strings.Repeat("0", 14)), 0, api.ErrShort)
	wantSymbol(t, newTable(t, []int{15}), reader(t, strings.Repeat("0", 15)), 0, api.OK)
	wantSymbol(t, newTable(t, []int{15}), reader(t, strings.Repeat("0", 14)+"1"), 0, api.ErrLens)
	wantSymbol(t, newTable(t, []int{15}), reader(t, "0001"), 0, api.ErrLens)
	wantSymbol(t, newTable(t, stairs()), reader(t, strings.Repeat("1", 14)), 0, api.ErrShort)
	wantSymbol(t, newTable(t, stairs()), reader(t, strings.Repeat("1", 15)), 15, api.OK)
	for _, lens := range [][]int{nil, {}, {0}, alike(0, 288)} {
		for _, text := range []string{"", "0", "1", "10101010"} {
			wantSymbol(t, newTable(t, lens), reader(t, text), 0, api.ErrLens)
		}
	}
}

// Hu3: a table behind a refusal goes on as ahead of it.
func TestHu3GoesOn(t *testing.T) {
	x := newTable(t, []int{0, 2, 2})
	for range 3 {
		wantSymbol(t, x, reader(t, "1"), 0, api.ErrLens)
		wantSymbol(t, x, reader(t, "0"), 0, api.ErrShort)
		wantSymbol(t, x, nil, 0, api.ErrArg)
		wantPut(t, x, bits.NewWriter(), 0, api.ErrArg)
		r := reader(t, "0100")
		wantSymbol(t, x, r, 2, api.OK)
		wantSymbol(t, x, r, 1, api.OK)
		wantSymbol(t, x, r, 0, api.ErrShort)
	}
}

// Hu3: lengths that may not be, or are of no code, have no table.
func TestHu3WrongLens(t *testing.T) {
	for _, lens := range wrongLens() {
		if x, e := huff.NewTable(lens); x != nil || e != api.ErrLens {
			t.Errorf("NewTable(%v): %v %d", lens, x, e)
		}
	}
}

// Hu3: symbols that have no word are not put, and nothing is written of them.
func TestHu3PutWrong(t *testing.T) {
	x := newTable(t, []int{0, 1, 0, 1, 0})
	w := bits.NewWriter()
	wantPut(t, x, w, 3, api.OK)
	for _, symbol := range []int{0, 2, 4, 5, 287, 288, -1, minInt, maxInt} {
		wantPut(t, x, w, symbol, api.ErrArg)
	}
	for _, symbol := range []int{0, 1, -1} {
		wantPut(t, newTable(t, nil), w, symbol, api.ErrArg)
		wantPut(t, newTable(t, alike(0, 288)), w, symbol, api.ErrArg)
	}
	if got := written(w); got != "1" {
		t.Errorf("written: %q", got)
	}
}

// Hu4: words are those of symbols, and no word begins another one.
func TestHu4Words(t *testing.T) {
	x := numbers(6)
	codes := [][]int{fixedLens(), stairs(), alike(5, 30), {1}, alike(15, 288)}
	for range 60 {
		codes = append(codes, x.codeLens(1+x.below(api.MaxSymbols)))
	}
	for _, lens := range codes {
		table := newTable(t, lens)
		words, _ := huff.Codes(lens)
		var all []string
		for symbol, l := range lens {
			if l == 0 {
				continue
			}
			w := bits.NewWriter()
			wantPut(t, table, w, symbol, api.OK)
			text := written(w)
			if len(text) != l || number(text) != words[symbol] {
				t.Errorf("symbol %d of length %d: %s, want %b", symbol, l, text, words[symbol])
			}
			wantSymbol(t, table, reader(t, text), symbol, api.OK)
			all = append(all, text)
		}
		slices.Sort(all)
		for i := 1; i < len(all); i++ { // what begins with a word stands right behind it
			if strings.HasPrefix(all[i], all[i-1]) {
				t.Errorf("%s begins %s", all[i-1], all[i])
			}
		}
	}
}

// Hu4: whatever symbols are written are read as they were, in as many bits as they cost.
func TestHu4ThereAndBack(t *testing.T) {
	x := numbers(7)
	for range 40 {
		freqs := make([]int, 2+x.below(api.MaxSymbols-1))
		var symbols []int
		for range 500 {
			s := x.below(1 + x.below(len(freqs)))
			symbols = append(symbols, s)
			freqs[s]++
		}
		lens, e := huff.Lengths(freqs, 9+x.below(7))
		if e != api.OK {
			t.Fatal(e)
		}
		table, w := newTable(t, lens), bits.NewWriter()
		for _, s := range symbols {
			wantPut(t, table, w, s, api.OK)
		}
		wantCost(t, freqs, lens, w.Place(), api.OK)
		r := bits.NewReader(w.Done())
		for _, s := range symbols {
			wantSymbol(t, table, r, s, api.OK)
		}
		if r.Place() != w.Place() {
			t.Errorf("read %d bits, want %d", r.Place(), w.Place())
		}
	}
}

// R1: nil, the zero value and a copy are none that NewTable gave.
func TestR1Tables(t *testing.T) {
	given := newTable(t, []int{2, 1, 2})
	copied := *given
	for _, x := range []*huff.Table{nil, {}, new(huff.Table), &copied} {
		w := bits.NewWriter()
		for _, symbol := range []int{0, 1, 2, 3, -1, minInt, maxInt} {
			wantPut(t, x, w, symbol, api.ErrArg)
			wantPut(t, x, nil, symbol, api.ErrArg)
		}
		wantSymbol(t, x, reader(t, "0000"), 0, api.ErrArg)
		wantSymbol(t, x, reader(t, ""), 0, api.ErrArg)
		wantSymbol(t, x, nil, 0, api.ErrArg)
		if w.Place() != 0 {
			t.Errorf("written: %q", written(w))
		}
	}
	wantSymbol(t, given, reader(t, "11"), 2, api.OK)
}

// R1: what is no reader and no writer is refused, ahead of all else.
func TestR1ReadersAndWriters(t *testing.T) {
	r, w := reader(t, "00000000"), bits.NewWriter()
	copiedReader, copiedWriter := *r, *w
	for _, lens := range [][]int{nil, {0}, {1}, {2, 1, 2}} {
		x := newTable(t, lens)
		for _, no := range []*bits.Reader{nil, {}, new(bits.Reader), &copiedReader} {
			wantSymbol(t, x, no, 0, api.ErrArg)
		}
		for _, no := range []*bits.Writer{nil, {}, new(bits.Writer), &copiedWriter} {
			for _, symbol := range []int{0, 1, -1} {
				wantPut(t, x, no, symbol, api.ErrArg)
			}
		}
	}
	if r.Place() != 0 || w.Place() != 0 {
		t.Error(r.Place(), w.Place())
	}
}

// R1: all calls end and none panics, at numbers of all kinds.
func TestR1AllEnd(t *testing.T) {
	odd := []int{0, 1, 2, 3, 14, 15, 16, 17, 62, 63, 64, -1, -16, maxFreq, maxFreq + 1, minInt, maxInt, minInt + 1}
	x := numbers(8)
	for range 20000 {
		some := func() []int {
			list := make([]int, x.below(6))
			for i := range list {
				list[i] = odd[x.below(len(odd))]
			}
			return list
		}
		lens, freqs, most := some(), some(), odd[x.below(len(odd))]
		huff.Codes(lens)
		huff.Whole(lens)
		huff.Cost(freqs, lens)
		huff.Lengths(freqs, most)
		table, _ := huff.NewTable(lens)
		table.Symbol(bits.NewReader("\x5a\xc3"))
		table.Put(bits.NewWriter(), most)
	}
}

// R2: what was refused has changed nothing, but where a reader stands.
func TestR2Refused(t *testing.T) {
	x := newTable(t, []int{1, 2})
	w := bits.NewWriter()
	wantPut(t, x, w, 1, api.OK)
	wantPut(t, x, w, 2, api.ErrArg)
	wantPut(t, nil, w, 0, api.ErrArg)
	wantPut(t, x, w, 0, api.OK)
	if got := written(w); got != "100" {
		t.Errorf("written: %q", got)
	}
	r := reader(t, "10")
	wantSymbol(t, nil, r, 0, api.ErrArg)
	if r.Place()%8 != 6 {
		t.Errorf("the reader stands at %d", r.Place())
	}
}

// R3: what is handed in is not changed, nor what lies behind its end.
func TestR3NotChanged(t *testing.T) {
	room := []int{2, 1, 3, 3, 77, 78}
	freqs := []int{5, 1, 1, 9, 79, 80}
	lens := room[:4]
	huff.Codes(lens)
	huff.Whole(lens)
	huff.Cost(freqs[:4], lens)
	huff.Lengths(freqs[:4], 3)
	newTable(t, lens)
	if !slices.Equal(room, []int{2, 1, 3, 3, 77, 78}) || !slices.Equal(freqs, []int{5, 1, 1, 9, 79, 80}) {
		t.Error(room, freqs)
	}
}

// R3: what is handed in is not kept: a table does not see what becomes of it.
func TestR3NotKept(t *testing.T) {
	lens := []int{2, 1, 3, 3}
	x := newTable(t, lens)
	lens[0], lens[1], lens[2], lens[3] = 0, 15, -4, 99
	w := bits.NewWriter()
	for symbol := range 4 {
		wantPut(t, x, w, symbol, api.OK)
	}
	if got := written(w); got != "100110111" {
		t.Errorf("written: %s", got)
	}
	r := bits.NewReader(w.Done())
	for symbol := range 4 {
		wantSymbol(t, x, r, symbol, api.OK)
	}
}

// overwrite fills a list and its spare room.
func overwrite(list []int) {
	list = list[:cap(list)]
	for i := range list {
		list[i] = 55
	}
}

// R3: an answer is new memory, its spare room too: no later answer hangs on what becomes of it.
func TestR3New(t *testing.T) {
	lens, freqs := []int{2, 1, 3, 3}, []int{3, 9, 1, 1}
	for range 3 {
		words, _ := huff.Codes(lens)
		best, _ := huff.Lengths(freqs, 3)
		if !slices.Equal(words, []int{2, 0, 6, 7}) || !slices.Equal(best, lens) {
			t.Error(words, best)
		}
		overwrite(words)
		overwrite(best)
	}
	if !slices.Equal(lens, []int{2, 1, 3, 3}) || !slices.Equal(freqs, []int{3, 9, 1, 1}) {
		t.Error(lens, freqs)
	}
}

// R4: what is answered hangs on the arguments alone: symbols that come as often as others have the same lengths again.
func TestR4Again(t *testing.T) {
	freqs := slices.Concat(alike(1, 100), alike(2, 77), alike(3, 50))
	first, _ := huff.Lengths(freqs, 9)
	words, _ := huff.Codes(first)
	for range 5 {
		huff.Lengths([]int{1, 2, 3, 4}, 2)
		wantLengths(t, freqs, 9, first, api.OK)
		wantCodes(t, first, words, api.OK)
	}
}

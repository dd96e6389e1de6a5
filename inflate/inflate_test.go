package inflate_test

import (
	"fmt"
	"math"
	"slices"
	"strings"
	"testing"
	"unsafe"

	"postroad/api"
	"postroad/huff"
	"postroad/inflate"
)

// short is a text as it may be told, cut where it is long.
func short(s string) string {
	if len(s) > 40 {
		return fmt.Sprintf("%q.. (%d bytes)", s[:40], len(s))
	}
	return fmt.Sprintf("%q", s)
}

// If1: the chapter's examples.
func TestIf1Examples(t *testing.T) {
	want(t, "\x01\x00\x00\xff\xff", 0, "", 5, api.OK)
	want(t, "\x03\x00", 0, "", 2, api.OK)
	wantError(t, "\x07", 0, api.ErrDeflate)
	wantError(t, "\x01\x05\x00", 9, api.ErrShort)
}

// If1: most is 0 to MaxPlain, and that is looked at ahead of all bits.
func TestIf1Most(t *testing.T) {
	for _, most := range []int{-1, api.MaxPlain + 1, math.MinInt64, math.MaxInt64} {
		for _, s := range []string{"", "\x07", "\x03\x00", "\x01\x05\x00"} {
			wantError(t, s, most, api.ErrArg)
		}
	}
	want(t, "\x03\x00", 0, "", 2, api.OK)
	want(t, "\x03\x00", api.MaxPlain, "", 2, api.OK)
}

// If1: as many plain bytes as may be, of each kind of block, and one more.
func TestIf1MaxPlain(t *testing.T) {
	tenth := "ten bytes."
	all := strings.Repeat(tenth, api.MaxPlain/len(tenth)+1)[:api.MaxPlain]
	stored := ""
	for rest := all; rest != ""; {
		n := min(len(rest), 65535)
		stored += "\x00" + low16(n) + low16(65535-n) + rest[:n]
		rest = rest[n:]
	}
	want(t, stored+"\x03\x00", api.MaxPlain, all, len(stored)+2, api.OK)
	wantError(t, stored+"\x03\x00", api.MaxPlain-1, api.ErrLong)
	wantError(t, stored+"\x01\x01\x00\xfe\xff!", api.MaxPlain, api.ErrLong)

	text := lastFixed + fixedBytes(tenth)
	length := len(tenth)
	for ; length+258 <= api.MaxPlain; length += 258 {
		text += fixedCopy(258, 10)
	}
	text += fixedCopy(api.MaxPlain-length, 10)
	wantPlain(t, packed(text+fixedEnd), all)
	wantError(t, packed(text+fixedWord('!')+fixedEnd), api.MaxPlain, api.ErrLong)
	wantError(t, packed(text+fixedCopy(3, 10)+fixedEnd), api.MaxPlain, api.ErrLong)
}

func low16(n int) string { return string([]byte{byte(n), byte(n >> 8)}) }

func fixedBytes(plain string) string {
	text := ""
	for i := range len(plain) {
		text += fixedWord(int(plain[i]))
	}
	return text
}

// If1: a block of kind 0 begins at a byte's first bit, has 0 to 65535 bytes, and takes them all.
func TestIf1Stored(t *testing.T) {
	for _, n := range []int{0, 1, 2, 255, 256, 257, 65534, 65535} {
		plain := sequence(n)
		wantPlain(t, "\x01"+low16(n)+low16(65535-n)+plain, plain)
	}
	// The bits up to the byte's end may be any.
	want(t, "\xf9\x02\x00\xfd\xffhi!", 2, "hi", 7, api.OK)
	// Behind a fixed block, at each of the eight places of a byte.
	for n := range 8 {
		plain := strings.Repeat("\xff", n)
		text := nextFixed + fixedBytes(plain) + fixedEnd + lastStored
		wantPlain(t, packed(text)+"\x03\x00\xfc\xffabc", plain+"abc")
	}
}

// If1: of a block of kind 0, m is looked at behind both numbers, the room behind m, the bytes at the end.
func TestIf1StoredRefused(t *testing.T) {
	wantError(t, "\x01", 9, api.ErrShort)
	wantError(t, "\x01\x02", 9, api.ErrShort)
	wantError(t, "\x01\x02\x00", 9, api.ErrShort)
	wantError(t, "\x01\x02\x00\xfe", 9, api.ErrShort)
	wantError(t, "\x01\x02\x00\xfe\xff", 9, api.ErrDeflate)
	wantError(t, "\x01\x02\x00\xfe\xffhi", 1, api.ErrDeflate)
	wantError(t, "\x01\x02\x00\xfd\xff", 1, api.ErrLong)
	wantError(t, "\x01\x02\x00\xfd\xffhi", 1, api.ErrLong)
	wantError(t, "\x01\x02\x00\xfd\xff", 2, api.ErrShort)
	wantError(t, "\x01\x02\x00\xfd\xffh", 2, api.ErrShort)
	wantError(t, "\x01\x02\x00\xfd\xff", 0, api.ErrLong)
	wantError(t, "\x01\xff\xff\x00\x00", 65534, api.ErrLong)
	wantError(t, "\x01\xff\xff\x00\x00", 65535, api.ErrShort)
	for bit := range 16 {
		wantError(t, "\x01\x02\x00"+low16(0xfffd^1<<bit)+"hi", 9, api.ErrDeflate)
	}
}

// If1: each plain byte by the fixed code.
func TestIf1FixedBytes(t *testing.T) {
	for b := range 256 {
		plain := string([]byte{byte(b)})
		wantPlain(t, packed(lastFixed+fixedBytes(plain)+fixedEnd), plain)
	}
}

// If1: each length, and by 284 also 258.
func TestIf1CopyLengths(t *testing.T) {
	for i, l := range copyLengths() {
		for more := range 1 << l.more {
			text := lastFixed + fixedBytes("ab") + fixedWord(257+i) + low(more, l.more) + high(1, 5) + fixedEnd
			wantPlain(t, packed(text), copied("ab", l.first+more, 2))
		}
	}
}

// If1: each distance, up to 32768.
func TestIf1CopyDistances(t *testing.T) {
	plain := []byte(sequence(32768))
	var text strings.Builder
	text.WriteString(lastFixed)
	for i, d := range copyDistances() {
		for more := range 1 << d.more {
			text.WriteString(fixedWord(257) + high(i, 5) + low(more, d.more))
			for range 3 {
				plain = append(plain, plain[len(plain)-d.first-more])
			}
		}
	}
	if len(plain) != 32768*4 {
		t.Fatal("not all distances: ", len(plain))
	}
	stored := "\x00\x00\x80\xff\x7f" + string(plain[:32768])
	wantPlain(t, stored+packed(text.String()+fixedEnd), string(plain))
}

// If1: a copy goes back as far as the first plain byte, into the blocks ahead, too, and into itself.
func TestIf1CopyReach(t *testing.T) {
	for n := range 6 {
		plain := "abcdef"[:n]
		ahead := []string{
			packed(nextFixed+fixedBytes(plain)+fixedEnd+nextStored) + "\x00\x00\xff\xff",
			"\x00" + low16(n) + low16(65535-n) + plain,
		}
		for distance := 1; distance < 9; distance++ {
			for length := 3; length < 20; length++ {
				behind := packed(lastFixed + fixedCopy(length, distance) + fixedEnd)
				for _, s := range ahead {
					if distance <= n {
						wantPlain(t, s+behind, copied(plain, length, distance))
					} else {
						wantError(t, s+behind, 99, api.ErrDeflate)
					}
				}
			}
		}
	}
}

// If1: the first code's lengths stand in their order, and those that are not told are 0.
func TestIf1FirstCode(t *testing.T) {
	for longest := 1; longest <= api.MaxLen; longest++ {
		symbols := lensUpTo(longest)
		freqs := make([]int, 19)
		for _, l := range append(symbols, 0) {
			freqs[l] = 1
		}
		first, e := huff.Lengths(freqs, 7)
		if e != api.OK {
			t.Fatal(e)
		}
		text, plain := "", ""
		for symbol, word := range words(symbols)[:256] {
			if word != "" {
				text += word
				plain += string([]byte{byte(symbol)})
			}
		}
		text += words(symbols)[endSymbol]
		for firsts := firstsFor(symbols); firsts <= 19; firsts++ {
			head := counts(len(symbols), 1, firsts) + firstLens(first, firsts) + each(first, append(symbols, 0))
			wantPlain(t, packed(lastTold+head+text), plain)
		}
	}
}

// lensUpTo are lengths of a whole code with a word of a length, and none longer; the last symbols have words.
func lensUpTo(longest int) []int {
	var lens []int
	for range 1 << min(longest, 8) {
		lens = append(lens, min(longest, 8))
	}
	for l := 9; l <= longest; l++ {
		lens[len(lens)-1] = l
		lens = append(lens, l)
	}
	for len(lens) < 257 {
		lens = slices.Insert(lens, 0, 0)
	}
	return lens
}

// firstsFor is how many lengths of a first code must be told to write lengths (and a 0) by it.
func firstsFor(lens []int) int {
	firsts := 4
	for i, symbol := range firstOrder() {
		if slices.Contains(lens, symbol) {
			firsts = max(firsts, i+1)
		}
	}
	return firsts
}

// If1: as many symbols and distances as may be; the distances' code may be of one word of length 1, or of none.
func TestIf1ToldCodes(t *testing.T) {
	symbols := some(manySymbols, map[int]int{'a': 1, 'b': 2, endSymbol: 3, 285: 3})
	text := lastTold + told(symbols, some(manyDistances, map[int]int{0: 1, 29: 1}))
	wantPlain(t, packed(text+"0"+"111"+"0"+"10"+"110"), copied("a", 258, 1)+"b")

	symbols = some(258, map[int]int{'a': 1, 'b': 2, endSymbol: 3, 257: 3})
	for d, s := range copyDistances()[:6] {
		text = lastTold + told(symbols, some(d+1, map[int]int{d: 1}))
		head := text + strings.Repeat("0"+"10", 4)
		wantPlain(t, packed(head+"111"+"0"+low(0, s.more)+"110"), copied("abababab", 3, s.first))
	}
	for n := 1; n <= manyDistances; n++ {
		text = lastTold + told(symbols, make([]int, n))
		wantPlain(t, packed(text+"0"+"10"+"110"), "ab")
	}
}

// If1: runs of lengths: 16, 17 and 18 as often as their bits say, also from one code into the other, also of noughts.
func TestIf1Runs(t *testing.T) {
	sixteen := some(258, nil)
	for symbol := 242; symbol < 258; symbol++ {
		sixteen[symbol] = 4
	}
	for _, x := range []struct{ symbols, distances []int }{
		{sixteen, slices.Repeat([]int{4}, 16)},
		{some(manySymbols, map[int]int{'a': 1, 'b': 2, endSymbol: 3, 257: 3}), some(manyDistances, map[int]int{5: 1, 6: 1})},
		{some(manySymbols, map[int]int{0: 1, 1: 2, endSymbol: 3, 257: 3}), some(manyDistances, map[int]int{29: 1})},
	} {
		text, plain := body(x.symbols, x.distances)
		try := func(of16, of17, of18 int) {
			t.Helper()
			head := counts(len(x.symbols), len(x.distances), 19) + firstLens(anyFirst(), 19)
			lens := runs(anyFirst(), slices.Concat(x.symbols, x.distances), of16, of17, of18)
			wantPlain(t, packed(lastTold+head+lens+text), plain)
		}
		for of16 := 3; of16 <= 6; of16++ {
			try(of16, 0, 0)
			try(of16, 10, 138)
		}
		for of17 := 3; of17 <= 10; of17++ {
			try(0, of17, 0)
			try(6, of17, 138)
		}
		for of18 := 11; of18 <= 138; of18++ {
			try(0, 0, of18)
			try(6, 10, of18)
		}
	}
}

// runs are lengths, written by runs of at most so many of 16, 17 and 18 where they can be, with 0 for none of these.
func runs(first, lens []int, of16, of17, of18 int) string {
	var text strings.Builder
	for i := 0; i < len(lens); {
		same := 1
		for i+same < len(lens) && lens[i+same] == lens[i] {
			same++
		}
		switch {
		case lens[i] == 0 && of18 > 0 && same >= 11:
			n := min(same, of18)
			text.WriteString(one(first, 18, n-11))
			i += n
		case lens[i] == 0 && of17 > 0 && same >= 3:
			n := min(same, of17)
			text.WriteString(one(first, 17, n-3))
			i += n
		case i > 0 && lens[i-1] == lens[i] && of16 > 0 && same >= 3:
			n := min(same, of16)
			text.WriteString(one(first, 16, n-3))
			i += n
		default:
			text.WriteString(one(first, lens[i], 0))
			i++
		}
	}
	return text.String()
}

// body is symbols up to a block's end: all plain bytes that have words, often enough, then copies of 3 bytes by each
// distance that has one.
func body(symbols, distances []int) (string, string) {
	var text, plain strings.Builder
	need := 1
	for d, l := range distances {
		if l > 0 {
			need = copyDistances()[d].first
		}
	}
	symbolWords, distanceWords := words(symbols), words(distances)
	for plain.Len() < need {
		for b, word := range symbolWords[:256] {
			if word != "" {
				text.WriteString(word)
				plain.WriteByte(byte(b))
			}
		}
	}
	all := plain.String()
	for d, word := range distanceWords {
		if word != "" {
			text.WriteString(symbolWords[257] + word + low(0, copyDistances()[d].more))
			all = copied(all, 3, copyDistances()[d].first)
		}
	}
	return text.String() + symbolWords[endSymbol], all
}

// refusal is a stream that is refused at its very last bit, with room for so many plain bytes of its own.
type refusal struct {
	name string
	text string
	room int
	e    api.Errno
}

// wantRefused: with one bit fewer it is too short; what stands behind it changes nothing.
func wantRefused(t *testing.T, x refusal) {
	t.Helper()
	s, plain := exactly(x.text[:len(x.text)-1])
	if _, _, e := inflate.Inflate(s, plain+x.room); e != api.ErrShort {
		t.Errorf("%s, one bit fewer: %d, want %d", x.name, e, api.ErrShort)
	}
	s, plain = exactly(x.text)
	for _, behind := range []string{"", "\x00", "\xff", strings.Repeat("\x00", 99), strings.Repeat("\xff", 99)} {
		got, taken, e := inflate.Inflate(s+behind, plain+x.room)
		if got != "" || taken != 0 || e != x.e {
			t.Errorf("%s, and %d bytes: %q %d %d, want %d", x.name, len(behind), got, taken, e, x.e)
		}
	}
}

// If1: there is no block of kind 3, be it the first one or not, the last one or not.
func TestIf1NoKind(t *testing.T) {
	wantRefused(t, refusal{"kind 3", lastNoKind, 99, api.ErrDeflate})
	wantRefused(t, refusal{"kind 3", "0" + "11", 99, api.ErrDeflate})
	wantRefused(t, refusal{"kind 3", nextFixed + fixedEnd + lastNoKind, 99, api.ErrDeflate})
	wantError(t, "\x07", 0, api.ErrDeflate)
	wantError(t, "\x06", 0, api.ErrDeflate)
	wantError(t, "", 0, api.ErrShort)
}

// If1: more symbols than 286, more distances than 30: behind the third number.
func TestIf1TooManyLengths(t *testing.T) {
	for firsts := 4; firsts <= 19; firsts += 5 {
		for _, n := range [][2]int{{287, 1}, {288, 1}, {257, 31}, {257, 32}, {288, 32}, {286, 31}, {287, 30}} {
			text := lastTold + counts(n[0], n[1], firsts)
			wantRefused(t, refusal{fmt.Sprint(n), text, 99, api.ErrDeflate})
		}
	}
}

// If1: the first code must be whole, behind all its lengths; one word of length 1 does not do.
func TestIf1FirstCodeRefused(t *testing.T) {
	for _, named := range []map[int]int{
		{}, {0: 1}, {15: 1}, {0: 1, 1: 2}, {0: 1, 1: 1, 2: 7}, {0: 1, 15: 2}, {16: 1, 17: 1, 18: 1}, {3: 7, 4: 7},
		{0: 1, 1: 2, 2: 3, 3: 4, 4: 5, 5: 6, 6: 7}, {0: 1, 1: 2, 2: 3, 3: 4, 4: 5, 5: 6, 6: 7, 7: 7, 8: 7},
	} {
		lens := some(19, named)
		for firsts := 4; firsts <= 19; firsts++ {
			if !firstsWhole(lens, firsts) {
				text := lastTold + counts(257, 1, firsts) + firstLens(lens, firsts)
				wantRefused(t, refusal{fmt.Sprint(named, firsts), text, 99, api.ErrDeflate})
			}
		}
	}
}

// firstsWhole tells whether the first so many lengths alone are those of a whole code.
func firstsWhole(lens []int, firsts int) bool {
	told := make([]int, len(lens))
	for _, symbol := range firstOrder()[:firsts] {
		told[symbol] = lens[symbol]
	}
	is, _ := huff.Whole(told)
	return is
}

// If1: 16 ahead of any length, as soon as it is met; more lengths than there are, behind the number of times.
func TestIf1RunsRefused(t *testing.T) {
	first := anyFirst()
	head := lastTold + counts(257, 2, 19) + firstLens(first, 19)
	wantRefused(t, refusal{"16 first", head + words(first)[16], 99, api.ErrDeflate})
	full := one(first, 18, 127) + one(first, 18, 107) // 256 of 259
	for _, x := range []struct{ name, lens string }{
		{"16: one more", full + one(first, 16, 1)},
		{"16: three more", full + one(first, 16, 3)},
		{"17: one more", full + one(first, 17, 1)},
		{"17: seven more", full + one(first, 17, 7)},
		{"18: eight more", full + one(first, 18, 0)},
		{"18: all too many", full + one(first, 18, 127)},
		{"16: by the last one", full + one(first, 1, 0) + one(first, 1, 0) + one(first, 16, 0)},
		{"17: by the last one", full + one(first, 1, 0) + one(first, 1, 0) + one(first, 17, 0)},
	} {
		wantRefused(t, refusal{x.name, head + x.lens, 99, api.ErrDeflate})
	}
}

// If1: behind all lengths: 256 must have a word, the symbols' code be whole, the distances' too, or of one word of
// length 1, or of none.
func TestIf1CodesRefused(t *testing.T) {
	good := some(257, map[int]int{'a': 1, endSymbol: 1})
	for _, x := range []struct {
		name      string
		symbols   []int
		distances []int
	}{
		{"256 without a word", some(257, map[int]int{0: 1, 1: 1}), []int{1, 1}},
		{"no symbols", make([]int, 257), []int{1, 1}},
		{"no symbols and no distances", make([]int, 257), []int{0}},
		{"256 alone", some(257, map[int]int{endSymbol: 1}), []int{1, 1}},
		{"256 alone, a long word", some(257, map[int]int{endSymbol: 15}), []int{1, 1}},
		{"too few symbols", some(257, map[int]int{0: 1, endSymbol: 2}), []int{1, 1}},
		{"too many symbols", some(257, map[int]int{0: 1, 1: 1, endSymbol: 1}), []int{1, 1}},
		{"one symbol too many", some(257, map[int]int{0: 1, 1: 1, endSymbol: 15}), []int{1, 1}},
		{"all symbols too long", slices.Repeat([]int{15}, 257), []int{1, 1}},
		{"one distance of 2", good, []int{2}},
		{"one distance of 15", good, []int{0, 15}},
		{"two distances of 2", good, []int{2, 2}},
		{"a distance of 1 and one of 2", good, []int{1, 0, 2}},
		{"three distances of 1", good, []int{1, 1, 1}},
		{"distances, one too many", good, []int{1, 2, 2, 15}},
	} {
		wantRefused(t, refusal{x.name, lastTold + told(x.symbols, x.distances), 99, api.ErrDeflate})
	}
}

// If1: 286 and 287 are words of the fixed code, that may not be: ahead of a distance.
func TestIf1SymbolsRefused(t *testing.T) {
	for _, ahead := range []string{"", fixedBytes("abc"), fixedBytes("abc") + fixedCopy(3, 1)} {
		for symbol := 286; symbol <= 287; symbol++ {
			text := lastFixed + ahead + fixedWord(symbol)
			wantRefused(t, refusal{fmt.Sprint(symbol), text, 99, api.ErrDeflate})
		}
	}
}

// If1: a distance's symbol that is none.
func TestIf1DistancesRefused(t *testing.T) {
	for d := 30; d <= 31; d++ {
		text := lastFixed + fixedBytes("abc") + fixedWord(257) + high(d, 5)
		wantRefused(t, refusal{fmt.Sprint("fixed ", d), text, 99, api.ErrDeflate})
		text = lastFixed + fixedBytes("abc") + fixedWord(265) + "1" + high(d, 5)
		wantRefused(t, refusal{fmt.Sprint("fixed ", d), text, 99, api.ErrDeflate})
	}
	symbols := some(266, map[int]int{'a': 1, endSymbol: 2, 257: 3, 265: 3})
	for n := 1; n <= manyDistances; n++ {
		head := lastTold + told(symbols, make([]int, n)) + "0"
		wantRefused(t, refusal{"no word", head + "110", 99, api.ErrDeflate})
		wantRefused(t, refusal{"no word behind a bit", head + "111" + "0", 99, api.ErrDeflate})
		head = lastTold + told(symbols, some(n, map[int]int{n - 1: 1})) + "0"
		wantRefused(t, refusal{"the other bit", head + "110" + "1", 99, api.ErrDeflate})
		wantRefused(t, refusal{"the other bit behind a bit", head + "111" + "0" + "1", 99, api.ErrDeflate})
	}
}

// If1: a distance beyond the first plain byte, behind its bits, and ahead of too long a copy.
func TestIf1BeyondRefused(t *testing.T) {
	for _, distance := range []int{16, 257, 32768} {
		for _, length := range []int{3, 12, 258} {
			for _, room := range []int{0, 1, 999} {
				text := lastFixed + fixedCopy(length, distance)
				wantRefused(t, refusal{fmt.Sprint(length, distance, room), text, room, api.ErrDeflate})
			}
		}
	}
	wantError(t, packed(lastFixed+fixedCopy(3, 1)+fixedEnd), 9, api.ErrDeflate)
	wantError(t, packed(lastFixed+fixedBytes("a")+fixedCopy(3, 2)+fixedEnd), 9, api.ErrDeflate)
	want(t, packed(lastFixed+fixedBytes("a")+fixedCopy(3, 1)+fixedEnd), 9, "aaaa", 4, api.OK)
}

// If1: ErrLong, of a plain byte behind its word, of a copy behind its distance.
func TestIf1LongRefused(t *testing.T) {
	symbols := some(266, map[int]int{'a': 1, endSymbol: 2, 257: 3, 265: 3})
	toldHead := lastTold + told(symbols, []int{1, 2, 0, 0, 2})
	for _, x := range []refusal{
		{"a fixed byte", lastFixed + fixedBytes("a"), 0, api.ErrLong},
		{"a fixed byte behind three", lastFixed + fixedBytes("abc\xff"), 3, api.ErrLong},
		{"a fixed copy of 3", lastFixed + fixedBytes("abc") + fixedCopy(3, 3), 5, api.ErrLong},
		{"a fixed copy of 258", lastFixed + fixedBytes("abc") + fixedCopy(258, 1), 260, api.ErrLong},
		{"a fixed copy of 11", lastFixed + fixedBytes("abcde") + fixedCopy(11, 5), 15, api.ErrLong},
		{"a told byte", toldHead + "0", 0, api.ErrLong},
		{"a told copy", toldHead + "00000" + "110" + "11" + "0", 7, api.ErrLong},
		{"a told copy of 12", toldHead + "00000" + "111" + "1" + "10", 16, api.ErrLong},
		{"a byte in a second block", nextFixed + fixedBytes("a") + fixedEnd + lastFixed + fixedBytes("b"), 1, api.ErrLong},
	} {
		wantRefused(t, x)
		s, plain := exactly(x.text)
		wantError(t, s, plain+x.room+1, api.ErrShort)
	}
	// What is met in a copy's distance is met ahead of that.
	text := lastFixed + fixedBytes("abc") + fixedWord(257) + high(30, 5)
	wantRefused(t, refusal{"30 without room", text, 3, api.ErrDeflate})
}

// sequence is bytes of all kinds, the same ones each time.
func sequence(n int) string {
	out := make([]byte, n)
	x := uint32(1)
	for i := range out {
		x = x*1664525 + 1013904223
		out[i] = byte(x >> 24)
	}
	return string(out)
}

// R3: an answer is new memory.
func TestR3NewMemory(t *testing.T) {
	s := "\x01\x40\x00\xbf\xff" + sequence(64)
	got, _, _ := inflate.Inflate(s, 64)
	again, _, _ := inflate.Inflate(s, 64)
	if got != s[5:] || again != got {
		t.Fatalf("%q %q", got, again)
	}
	if lies(got, s) || lies(again, got) {
		t.Error("the answer lies in another's memory")
	}
}

// lies tells whether bytes lie in the memory of others.
func lies(part, whole string) bool {
	at := uintptr(unsafe.Pointer(unsafe.StringData(part)))
	from := uintptr(unsafe.Pointer(unsafe.StringData(whole)))
	return at >= from && at < from+uintptr(len(whole))
}

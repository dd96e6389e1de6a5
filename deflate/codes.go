package deflate

import (
	mathbits "math/bits"

	"postroad/api"
	"postroad/huff"
)

const (
	endSymbol    = 256 // the plain bytes' symbols stand ahead of it, the copies' behind it
	lastSymbol   = 285
	allDistances = 30
	lengthStep   = 4 // so many symbols of lengths, then a bit more of each
	distanceStep = 2

	leastSymbols   = 257 // a block tells no fewer lengths than these
	leastDistances = 1
	leastFirsts    = 4

	firstSymbols = 19 // of the code by which the other codes' lengths are written
	firstBits    = 3  // of each length of it
	firstMost    = 1<<firstBits - 1
)

// firstOrder is the order in which the first code's own lengths are told.
var firstOrder = [firstSymbols]int{16, 17, 18, 0, 8, 7, 9, 6, 10, 5, 11, 4, 12, 3, 13, 2, 14, 1, 15}

// piece is a symbol, and a number of so many bits behind its word.
type piece struct {
	symbol, rest, more int
}

func lengthPiece(length int) piece {
	// 258 has a symbol without more bits, though the one ahead could tell it too.
	if length == longestCopy {
		return piece{symbol: lastSymbol}
	}
	p := stepped(length-shortestCopy, lengthStep)
	p.symbol += endSymbol + 1
	return p
}

func distancePiece(distance int) piece { return stepped(distance-1, distanceStep) }

// stepped is a number, from 0 on, as a symbol and more bits. The symbols of the first two steps tell it alone; from
// the third step on, each has a bit more than those of the one ahead.
func stepped(x, step int) piece {
	more := max(0, mathbits.Len(uint(x/step))-1)
	return piece{step*more + x>>more, x & (1<<more - 1), more}
}

// counts are how often symbols come in a block, and how many bits stand behind their words in all.
type counts struct {
	symbols, distances []int
	more               int
}

func countsOf(tokens []token) counts {
	often := counts{symbols: make([]int, api.MaxSymbols), distances: make([]int, allDistances)}
	for _, t := range tokens {
		if t.distance == 0 {
			often.symbols[t.plain]++
			continue
		}
		length, distance := lengthPiece(int(t.length)), distancePiece(int(t.distance))
		often.symbols[length.symbol]++
		often.distances[distance.symbol]++
		often.more += length.more + distance.more
	}
	often.symbols[endSymbol]++
	return often
}

// cost is how many bits the symbols take by codes, with what stands behind their words.
func (often counts) cost(by codes) int {
	symbols, _ := huff.Cost(often.symbols[:len(by.symbols)], by.symbols)
	distances, _ := huff.Cost(often.distances[:len(by.distances)], by.distances)
	return symbols + distances + often.more
}

// codes are the lengths of the two codes of a block.
type codes struct {
	symbols, distances []int
}

func fixedCodes() codes {
	by := codes{make([]int, api.MaxSymbols), make([]int, allDistances)}
	for symbol := range by.symbols {
		switch {
		case symbol < 144:
			by.symbols[symbol] = 8
		case symbol < 256:
			by.symbols[symbol] = 9
		case symbol < 280:
			by.symbols[symbol] = 7
		default:
			by.symbols[symbol] = 8
		}
	}
	for symbol := range by.distances {
		by.distances[symbol] = 5
	}
	return by
}

// toldCodes are codes, and how their lengths are told ahead of a block's symbols.
type toldCodes struct {
	codes
	runs   []piece // the lengths of both codes, as symbols of the first one
	first  []int   // the first code's own lengths
	firsts int     // so many of them are told
}

// codesFor are the best codes for symbols that come so often. If plain bytes or copies come at all, the symbols' code
// is whole, and has two lengths or more, since no 257 to 286 words of one length are whole: so is the first code.
func codesFor(often counts) toldCodes {
	symbols, _ := huff.Lengths(often.symbols, api.MaxLen)
	distances, _ := huff.Lengths(often.distances, api.MaxLen)
	by := toldCodes{codes: codes{trimmed(symbols, leastSymbols), trimmed(distances, leastDistances)}}
	both := append(append([]int(nil), by.symbols...), by.distances...)
	by.runs = runs(both)
	by.first, _ = huff.Lengths(by.firstCounts(), firstMost)
	by.firsts = firstSymbols
	// This ends ahead of leastFirsts: lengths above 0 come behind them in the order, and the end's symbol has one.
	for by.first[firstOrder[by.firsts-1]] == 0 {
		by.firsts--
	}
	return by
}

// trimmed are lengths without the noughts at their end, but at least so many.
func trimmed(lens []int, least int) []int {
	n := len(lens)
	for n > least && lens[n-1] == 0 {
		n--
	}
	return lens[:n]
}

// firstCounts are how often the first code's symbols come.
func (by toldCodes) firstCounts() []int {
	often := make([]int, firstSymbols)
	for _, r := range by.runs {
		often[r.symbol]++
	}
	return often
}

// headCost is how many bits it takes to tell the codes.
func (by toldCodes) headCost() int {
	cost, _ := huff.Cost(by.firstCounts(), by.first)
	for _, r := range by.runs {
		cost += r.more
	}
	return 5 + 5 + 4 + by.firsts*firstBits + cost
}

// runs are lengths as symbols of the first code.
func runs(lens []int) []piece {
	var out []piece
	for len(lens) > 0 {
		times := 1
		for times < len(lens) && lens[times] == lens[0] {
			times++
		}
		out = appendRun(out, lens[0], times)
		lens = lens[times:]
	}
	return out
}

// appendRun tells one length so many times.
func appendRun(out []piece, length, times int) []piece {
	// Noughts are repeated as such, another length only behind itself.
	if length > 0 {
		out = append(out, piece{symbol: length})
		times--
	}
	for times >= 3 {
		again, n := repeated(length, times)
		out = append(out, again)
		times -= n
	}
	for range times {
		out = append(out, piece{symbol: length})
	}
	return out
}

// repeated is the symbol that repeats a length most often, but at most so many times, and how often it does.
func repeated(length, times int) (piece, int) {
	switch {
	case length > 0:
		n := min(times, 6)
		return piece{16, n - 3, 2}, n
	case times <= 10:
		return piece{17, times - 3, 3}, times
	default:
		n := min(times, 138)
		return piece{18, n - 11, 7}, n
	}
}

package inflate

import (
	"postroad/api"
	"postroad/huff"
)

const (
	endSymbol    = 256 // the plain bytes' symbols stand ahead of it, the copies' behind it
	lastSymbol   = 285
	lastDistance = 29
	firstSymbols = 19 // of the code by which the other codes' lengths are written

	shortestCopy = 3
	longestCopy  = 258
	lengthStep   = 4 // so many symbols of lengths, then a bit more of each
	distanceStep = 2
)

// firstOrder is the order in which the first code's own lengths are told.
var firstOrder = [firstSymbols]int{16, 17, 18, 0, 8, 7, 9, 6, 10, 5, 11, 4, 12, 3, 13, 2, 14, 1, 15}

// codes are the two by which a block's symbols are written.
type codes struct {
	symbols   *huff.Table
	distances *huff.Table
}

// symbol is the next symbol of a code.
func (u *unpacker) symbol(of *huff.Table) int {
	symbol, e := of.Symbol(u.in)
	insist(e != api.ErrLens)
	check(e)
	return symbol
}

// length is how many bytes a symbol copies.
func (u *unpacker) length(symbol int) int {
	insist(symbol <= lastSymbol)
	if symbol == lastSymbol {
		return longestCopy
	}
	return shortestCopy + u.stepped(symbol-endSymbol-1, lengthStep)
}

// distance is how far back a copy begins.
func (u *unpacker) distance(of *huff.Table) int {
	symbol := u.symbol(of)
	insist(symbol <= lastDistance)
	return 1 + u.stepped(symbol, distanceStep)
}

// stepped is a number, from 0 on, that a symbol begins to tell and more bits tell to the end. The numbers of the first
// step's symbols are the symbols; from the third step on, each has a bit more than the one ahead.
func (u *unpacker) stepped(symbol, step int) int {
	if symbol < step {
		return symbol
	}
	more := symbol/step - 1
	return (step+symbol%step)<<more + u.bits(more)
}

// fixedCodes are made once for all blocks: a block may be far shorter than their tables.
func (u *unpacker) fixedCodes() codes {
	if u.fixed.symbols == nil {
		u.fixed = codes{tableOf(fixedSymbolLens()), tableOf(fixedDistanceLens())}
	}
	return u.fixed
}

func fixedSymbolLens() []int {
	lens := make([]int, api.MaxSymbols)
	for symbol := range lens {
		switch {
		case symbol < 144:
			lens[symbol] = 8
		case symbol < 256:
			lens[symbol] = 9
		case symbol < 280:
			lens[symbol] = 7
		default:
			lens[symbol] = 8
		}
	}
	return lens
}

// fixedDistanceLens are two more than there are distances: these two have words that may not be.
func fixedDistanceLens() []int {
	lens := make([]int, lastDistance+1+2)
	for symbol := range lens {
		lens[symbol] = 5
	}
	return lens
}

// toldCodes are those that the block itself tells.
func (u *unpacker) toldCodes() codes {
	symbols := endSymbol + 1 + u.bits(5)
	distances := 1 + u.bits(5)
	firsts := 4 + u.bits(4)
	insist(symbols <= lastSymbol+1 && distances <= lastDistance+1)
	lens := u.lengths(u.firstCode(firsts), symbols+distances)
	ofSymbols, ofDistances := lens[:symbols], lens[symbols:]
	insist(ofSymbols[endSymbol] > 0)
	insist(whole(ofSymbols))
	insist(whole(ofDistances) || loneOrNone(ofDistances))
	return codes{tableOf(ofSymbols), tableOf(ofDistances)}
}

// firstCode is the one by which the two others' lengths are written, of so many lengths.
func (u *unpacker) firstCode(told int) *huff.Table {
	lens := make([]int, firstSymbols)
	for i := range told {
		lens[firstOrder[i]] = u.bits(3)
	}
	insist(whole(lens))
	return tableOf(lens)
}

// lengths are so many, of both codes in one list: a run of them may begin in one code and end in the other.
func (u *unpacker) lengths(by *huff.Table, n int) []int {
	lens := make([]int, 0, n)
	for len(lens) < n {
		length, times := u.run(by, lens)
		insist(times <= n-len(lens))
		for range times {
			lens = append(lens, length)
		}
	}
	return lens
}

// run is the length that comes behind others, and how many times it does.
func (u *unpacker) run(by *huff.Table, ahead []int) (length, times int) {
	switch symbol := u.symbol(by); symbol {
	case 16:
		insist(len(ahead) > 0)
		return ahead[len(ahead)-1], 3 + u.bits(2)
	case 17:
		return 0, 3 + u.bits(3)
	case 18:
		return 0, 11 + u.bits(7)
	default:
		return symbol, 1
	}
}

func whole(lens []int) bool {
	is, e := huff.Whole(lens)
	return is && e == api.OK
}

// loneOrNone tells whether there is just one word, of length 1, or none: no other lengths have so small a sum.
func loneOrNone(lens []int) bool {
	sum := 0
	for _, l := range lens {
		sum += l
	}
	return sum <= 1
}

// tableOf is the table of lengths that are known to be a code's.
func tableOf(lens []int) *huff.Table {
	t, e := huff.NewTable(lens)
	check(e)
	return t
}

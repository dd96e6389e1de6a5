package deflate

import (
	"postroad/bits"
	"postroad/huff"
)

const (
	byteBits  = 8
	headBits  = 3 // ahead of each block: whether it is the last one, and its kind
	countBits = 16
	maxStored = 1<<countBits - 1 // bytes of a block of kind 0
)

// The kinds of blocks.
const (
	kindStored = iota
	kindFixed
	kindTold
)

// packer writes blocks.
type packer struct {
	out *bits.Writer
}

// head begins a block.
func (p packer) head(kind int, last bool) {
	if last {
		p.out.Bits(1, 1)
	} else {
		p.out.Bits(0, 1)
	}
	p.out.Bits(kind, 2)
}

// stored writes a block of plain bytes, at most maxStored.
func (p packer) stored(plain string, last bool) {
	p.head(kindStored, last)
	p.out.Align()
	p.out.Bits(len(plain), countBits)
	p.out.Bits(maxStored-len(plain), countBits)
	p.out.Bytes(plain)
}

// storedCost is how many bits stored would write.
func (p packer) storedCost(plain string) int {
	begin := p.out.Place()
	start := (begin + headBits + byteBits - 1) / byteBits * byteBits
	return start - begin + 2*countBits + len(plain)*byteBits
}

// fixed writes a block by the fixed codes.
func (p packer) fixed(tokens []token, last bool) {
	p.head(kindFixed, last)
	p.tokens(tokens, fixedCodes())
}

// told writes a block by codes that it tells itself.
func (p packer) told(tokens []token, by toldCodes, last bool) {
	p.head(kindTold, last)
	p.out.Bits(len(by.symbols)-leastSymbols, 5)
	p.out.Bits(len(by.distances)-leastDistances, 5)
	p.out.Bits(by.firsts-leastFirsts, 4)
	for i := range by.firsts {
		p.out.Bits(by.first[firstOrder[i]], firstBits)
	}
	table, _ := huff.NewTable(by.first)
	for _, r := range by.runs {
		p.piece(table, r)
	}
	p.tokens(tokens, by.codes)
}

// best writes a block, of at most partTokens, of the kind that takes the fewest bits.
func (p packer) best(plain string, tokens []token, last bool) {
	often := countsOf(tokens)
	told := codesFor(often)
	ofTold := headBits + told.headCost() + often.cost(told.codes)
	ofFixed := headBits + often.cost(fixedCodes())
	ofStored := p.storedCost(plain)
	switch {
	case ofStored <= min(ofFixed, ofTold):
		p.stored(plain, last)
	case ofFixed <= ofTold:
		p.fixed(tokens, last)
	default:
		p.told(tokens, told, last)
	}
}

// tokens writes tokens by codes, and the block's end.
func (p packer) tokens(tokens []token, by codes) {
	symbols, _ := huff.NewTable(by.symbols)
	distances, _ := huff.NewTable(by.distances)
	for _, t := range tokens {
		if t.distance == 0 {
			symbols.Put(p.out, int(t.plain))
			continue
		}
		p.piece(symbols, lengthPiece(int(t.length)))
		p.piece(distances, distancePiece(int(t.distance)))
	}
	symbols.Put(p.out, endSymbol)
}

// piece writes a symbol and what stands behind its word.
func (p packer) piece(by *huff.Table, x piece) {
	by.Put(p.out, x.symbol)
	p.out.Bits(x.rest, x.more)
}

package frame

import (
	"postroad/api"
	"postroad/bits"
	"postroad/lz"
)

// Pack is the LZ4 frame of bytes, in blocks of at most 64 KiB.
func Pack(s string) (string, api.Errno) {
	if len(s) > api.MaxPlain {
		return "", api.ErrLong
	}
	var p packer
	p.putHead()
	for left := s; left != ""; {
		n := min(len(left), blockMost(smallestK))
		p.putBlock(left[:n])
		left = left[n:]
	}
	p.putNumber(endOfBlocks)
	p.putNumber(sumOf(s))
	return string(p.frame), api.OK
}

// packer holds what is written so far.
type packer struct {
	frame []byte
}

func (p *packer) putHead() {
	head := string([]byte{flagsOfPack, smallestK << belowK})
	p.put(beginning + head)
	p.frame = append(p.frame, byte(headSum(head)))
}

// putBlock writes a block, packed where that saves a byte at least.
func (p *packer) putBlock(plain string) {
	held, kind := plain, plainBlock
	if packed, e := lz.Pack(plain); e == api.OK && len(packed) < len(plain) {
		held, kind = packed, 0
	}
	p.putNumber(len(held) | kind)
	p.put(held)
	p.putNumber(sumOf(held))
}

func (p *packer) put(s string) { p.frame = append(p.frame, s...) }

// putNumber writes a number or a sum of four bytes.
func (p *packer) putNumber(n int) {
	four, _ := bits.PutFixed(n, numberBytes)
	p.put(four)
}

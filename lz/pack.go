package lz

import "postroad/api"

// Pack is the LZ4 block of bytes.
func Pack(s string) (string, api.Errno) {
	if len(s) > api.MaxPlain {
		return "", api.ErrLong
	}
	f := finder{s, map[four]int32{}, make([]int32, len(s))}
	var b block
	told := 0
	for at := 0; at+copyEnd <= len(s); {
		n, distance := f.copyAt(at)
		if n == 0 {
			f.meet(at)
			at++
			continue
		}
		b.putCopy(s[told:at], distance, n)
		for told = at + n; at < told; at++ {
			f.meet(at)
		}
	}
	b.putPlain(s[told:], 0)
	return string(b.bytes), api.OK
}

// block is what is written so far.
type block struct {
	bytes []byte
}

// putCopy writes a sequence: plain bytes, and a copy of n.
func (b *block) putCopy(plain string, distance, n int) {
	copied := n - shortestCopy
	b.putPlain(plain, copied)
	b.bytes = append(b.bytes, byte(distance), byte(distance>>8))
	b.putMore(copied)
}

// putPlain writes a sequence up to its plain bytes, and the four bits of its copy's number.
func (b *block) putPlain(plain string, copied int) {
	b.bytes = append(b.bytes, byte(min(len(plain), fullBits)<<4|min(copied, fullBits)))
	b.putMore(len(plain))
	b.bytes = append(b.bytes, plain...)
}

// putMore writes what four bits leave over of a number.
func (b *block) putMore(n int) {
	if n < fullBits {
		return
	}
	for n -= fullBits; n >= fullByte; n -= fullByte {
		b.bytes = append(b.bytes, fullByte)
	}
	b.bytes = append(b.bytes, byte(n))
}

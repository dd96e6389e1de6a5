package frame

import (
	"postroad/api"
	"postroad/bits"
	"postroad/lz"
)

// unpacker reads a frame piece by piece, and holds what the pieces told so far.
type unpacker struct {
	frame string
	at    int
	most  int

	flags     int
	blockMost int
	size      int // how many plain bytes there are, if it is told
	block     int // the number of the block that comes next
	held      string
	plain     []byte
}

// piece reads a piece of a frame, and says what is wrong with it.
type piece func() api.Errno

// Unpack is the plain bytes of an LZ4 frame, at most so many, and how many bytes it took.
func Unpack(s string, most int) (string, int, api.Errno) {
	if most < 0 || most > api.MaxPlain {
		return "", 0, api.ErrArg
	}
	u := unpacker{frame: s, most: most}
	e := inTurn([]piece{
		u.readBeginning, u.readFlags, u.readBlockMost, u.readSize, u.readHeadSum,
		u.readBlocks, u.checkSize, u.readSumOfAll,
	})
	if e != api.OK {
		return "", 0, e
	}
	return string(u.plain), u.at, api.OK
}

// inTurn reads pieces up to the first one that is wrong.
func inTurn(pieces []piece) api.Errno {
	for _, read := range pieces {
		if e := read(); e != api.OK {
			return e
		}
	}
	return api.OK
}

func (u *unpacker) readBeginning() api.Errno {
	s, e := u.next(len(beginning))
	if e == api.OK && s != beginning {
		return api.ErrFrame
	}
	return e
}

func (u *unpacker) readFlags() api.Errno {
	flags, e := u.number(1)
	if e == api.OK && flags&^mayBeSet != everyFrame {
		return api.ErrFrame
	}
	u.flags = flags
	return e
}

func (u *unpacker) readBlockMost() api.Errno {
	d, e := u.number(1)
	if e != api.OK {
		return e
	}
	k := d >> belowK
	if k < smallestK || k > largestK || d != k<<belowK {
		return api.ErrFrame
	}
	u.blockMost = blockMost(k)
	return api.OK
}

func (u *unpacker) readSize() api.Errno {
	if !u.has(sizeIsTold) {
		return api.OK
	}
	size, e := u.number(sizeBytes)
	// ErrBits says that it would be 2^63 or more.
	if size > largestSize || e == api.ErrBits {
		return api.ErrFrame
	}
	u.size = size
	return e
}

func (u *unpacker) readHeadSum() api.Errno {
	head := u.frame[len(beginning):u.at]
	sum, e := u.number(1)
	if e == api.OK && sum != headSum(head) {
		return api.ErrSum
	}
	return e
}

func (u *unpacker) readBlocks() api.Errno {
	pieces := []piece{u.readHeld, u.readHeldSum, u.unpackHeld, u.checkMost, u.readBlockNumber}
	e := u.readBlockNumber()
	for e == api.OK && u.block != endOfBlocks {
		e = inTurn(pieces)
	}
	return e
}

func (u *unpacker) readBlockNumber() api.Errno {
	block, e := u.number(numberBytes)
	u.block = block
	if block == plainBlock || u.heldBytes() > u.blockMost {
		return api.ErrFrame
	}
	return e
}

func (u *unpacker) readHeld() api.Errno {
	held, e := u.next(u.heldBytes())
	u.held = held
	return e
}

// readHeldSum comes ahead of all that looks into a block: of bytes that are not those that were written nothing else is
// worth telling.
func (u *unpacker) readHeldSum() api.Errno {
	if !u.has(blocksSums) {
		return api.OK
	}
	return u.readSum(u.held)
}

func (u *unpacker) unpackHeld() api.Errno {
	if u.block&plainBlock != 0 {
		u.plain = append(u.plain, u.held...)
		return api.OK
	}
	plain, e := lz.Unpack(u.held, min(u.blockMost, api.MaxPlain))
	// Where a block may have more than layer 6 tells, its being too long for that does not make it a wrong one.
	if e == api.ErrLong && u.blockMost <= api.MaxPlain {
		return api.ErrFrame
	}
	u.plain = append(u.plain, plain...)
	return e
}

func (u *unpacker) checkMost() api.Errno {
	if len(u.plain) > u.most {
		return api.ErrLong
	}
	return api.OK
}

func (u *unpacker) checkSize() api.Errno {
	if u.has(sizeIsTold) && u.size != len(u.plain) {
		return api.ErrFrame
	}
	return api.OK
}

func (u *unpacker) readSumOfAll() api.Errno {
	if !u.has(sumOfAll) {
		return api.OK
	}
	return u.readSum(string(u.plain))
}

func (u *unpacker) readSum(of string) api.Errno {
	sum, e := u.number(numberBytes)
	if e == api.OK && sum != sumOf(of) {
		return api.ErrSum
	}
	return e
}

func (u *unpacker) has(flag int) bool { return u.flags&flag != 0 }

// heldBytes is how many bytes the block takes in the frame.
func (u *unpacker) heldBytes() int { return u.block &^ plainBlock }

func (u *unpacker) number(bytes int) (int, api.Errno) {
	s, e := u.next(bytes)
	if e != api.OK {
		return 0, e
	}
	return bits.Fixed(s, bytes)
}

func (u *unpacker) next(bytes int) (string, api.Errno) {
	if bytes > len(u.frame)-u.at {
		return "", api.ErrShort
	}
	u.at += bytes
	return u.frame[u.at-bytes : u.at], api.OK
}

package lz

import "postroad/api"

// unpacker reads a block, and holds the plain bytes that it has told so far.
type unpacker struct {
	block string
	at    int
	plain []byte
	most  int
}

// Unpack is the plain bytes of an LZ4 block, at most so many.
func Unpack(s string, most int) (string, api.Errno) {
	if most < 0 || most > api.MaxPlain {
		return "", api.ErrArg
	}
	u := unpacker{block: s, most: most}
	for {
		last, e := u.sequence()
		if e != api.OK {
			return "", e
		}
		if last {
			return string(u.plain), api.OK
		}
	}
}

// sequence reads plain bytes and, unless the block ends with them, a copy.
func (u *unpacker) sequence() (last bool, e api.Errno) {
	head, e := u.next()
	if e != api.OK {
		return false, e
	}
	if e := u.readPlain(head >> 4); e != api.OK {
		return false, e
	}
	if u.at == len(u.block) {
		return true, api.OK
	}
	return false, u.readCopy(head & fullBits)
}

func (u *unpacker) readPlain(bits int) api.Errno {
	n, e := u.number(bits)
	if e != api.OK {
		return e
	}
	if n > u.room() {
		return api.ErrLong
	}
	if n > len(u.block)-u.at {
		return api.ErrShort
	}
	u.plain = append(u.plain, u.block[u.at:u.at+n]...)
	u.at += n
	return api.OK
}

func (u *unpacker) readCopy(bits int) api.Errno {
	distance, e := u.distance()
	if e != api.OK {
		return e
	}
	n, e := u.number(bits)
	if e != api.OK {
		return e
	}
	n += shortestCopy
	if n > u.room() {
		return api.ErrLong
	}
	// One by one, since a copy may take bytes that it has put there itself.
	for range n {
		u.plain = append(u.plain, u.plain[len(u.plain)-distance])
	}
	return api.OK
}

func (u *unpacker) distance() (int, api.Errno) {
	low, e := u.next()
	if e != api.OK {
		return 0, e
	}
	high, e := u.next()
	if e != api.OK {
		return 0, e
	}
	distance := low | high<<8
	if distance == 0 || distance > len(u.plain) {
		return 0, api.ErrLz
	}
	return distance, api.OK
}

// number is the number that four bits begin.
func (u *unpacker) number(bits int) (int, api.Errno) {
	n := bits
	if bits < fullBits {
		return n, api.OK
	}
	for {
		more, e := u.next()
		if e != api.OK {
			return 0, e
		}
		n += more
		if more < fullByte {
			return n, api.OK
		}
	}
}

func (u *unpacker) next() (int, api.Errno) {
	if u.at == len(u.block) {
		return 0, api.ErrShort
	}
	b := u.block[u.at]
	u.at++
	return int(b), api.OK
}

// room is how many plain bytes there may be yet.
func (u *unpacker) room() int {
	return u.most - len(u.plain)
}

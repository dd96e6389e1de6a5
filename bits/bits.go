// Package bits is layer 1: see shared/doc/01-bits.md.
package bits

import (
	"strings"

	"postroad/api"
)

const (
	byteBits  = 8
	groupBits = 7
	more      = 1 << groupBits // the bit of a byte behind which another group comes
	maxGroups = 9              // nine groups of seven bits are all 63 that a number has
	maxBytes  = 8
)

// Reader reads bits, the lowest ones of a byte first.
type Reader struct {
	self  *Reader
	s     string
	place int
}

// NewReader is a reader of bytes.
func NewReader(s string) *Reader {
	r := &Reader{s: strings.Clone(s)}
	r.self = r
	return r
}

// given tells whether NewReader gave this reader: it gave no nil, no zero value and no copy of a reader.
func (r *Reader) given() bool { return r != nil && r.self == r }

// Bits are the next bits, as a number.
func (r *Reader) Bits(n int) (int, api.Errno) {
	if !r.given() || n < 0 || n > api.MaxBits {
		return 0, api.ErrArg
	}
	if n > len(r.s)*byteBits-r.place {
		return 0, api.ErrShort
	}
	var x uint64
	for i := range n {
		at := r.place + i
		bit := r.s[at/byteBits] >> (at % byteBits) & 1
		x |= uint64(bit) << i
	}
	r.place += n
	return int(x), api.OK
}

// Align goes on to the next byte's first bit.
func (r *Reader) Align() api.Errno {
	if !r.given() {
		return api.ErrArg
	}
	r.place = byteEnd(r.place)
	return api.OK
}

// Bytes are the next bytes, from a byte's first bit on.
func (r *Reader) Bytes(n int) (string, api.Errno) {
	if !r.given() || n < 0 {
		return "", api.ErrArg
	}
	if r.place%byteBits != 0 {
		return "", api.ErrBits
	}
	rest := r.s[r.place/byteBits:]
	if n > len(rest) {
		return "", api.ErrShort
	}
	r.place += n * byteBits
	return strings.Clone(rest[:n]), api.OK
}

// Place is how many bits were read.
func (r *Reader) Place() int {
	if !r.given() {
		return 0
	}
	return r.place
}

// Writer writes bits, the lowest ones of a byte first.
type Writer struct {
	self  *Writer
	out   []byte // the bits of its last byte that are not written yet are noughts
	place int
}

// NewWriter is a writer without bits.
func NewWriter() *Writer {
	w := &Writer{}
	w.self = w
	return w
}

// given tells whether NewWriter gave this writer: a copy of one would write into the same bytes.
func (w *Writer) given() bool { return w != nil && w.self == w }

// Bits writes the lowest bits of a number.
func (w *Writer) Bits(x, n int) api.Errno {
	if !w.given() || n < 0 || n > api.MaxBits || x < 0 || x >= 1<<n {
		return api.ErrArg
	}
	for i := range n {
		if w.place%byteBits == 0 {
			w.out = append(w.out, 0)
		}
		bit := byte(uint64(x) >> i & 1)
		w.out[w.place/byteBits] |= bit << (w.place % byteBits)
		w.place++
	}
	return api.OK
}

// Align writes noughts up to a byte's end.
func (w *Writer) Align() api.Errno {
	if !w.given() {
		return api.ErrArg
	}
	w.place = byteEnd(w.place)
	return api.OK
}

// Bytes writes bytes, from a byte's first bit on.
func (w *Writer) Bytes(s string) api.Errno {
	if !w.given() {
		return api.ErrArg
	}
	if w.place%byteBits != 0 {
		return api.ErrBits
	}
	w.out = append(w.out, s...)
	w.place += len(s) * byteBits
	return api.OK
}

// Place is how many bits were written.
func (w *Writer) Place() int {
	if !w.given() {
		return 0
	}
	return w.place
}

// Done is all that was written, with noughts up to a byte's end.
func (w *Writer) Done() string {
	if !w.given() {
		return ""
	}
	return string(w.out)
}

// byteEnd is the first place from a place on that is a byte's first bit.
func byteEnd(place int) int { return (place + byteBits - 1) / byteBits * byteBits }

// PutVar is a number as seven bits a byte, the lowest first.
func PutVar(n int) (string, api.Errno) {
	if n < 0 {
		return "", api.ErrArg
	}
	var out []byte
	x := uint64(n)
	for x >= more {
		out = append(out, byte(x)|more)
		x >>= groupBits
	}
	return string(append(out, byte(x))), api.OK
}

// Var is the number that bytes begin with, and how many bytes.
func Var(s string) (int, int, api.Errno) {
	var x uint64
	for i := range min(len(s), maxGroups) {
		group := s[i] &^ more
		x |= uint64(group) << (groupBits * i)
		if group != s[i] {
			continue
		}
		if group == 0 && i > 0 {
			return 0, 0, api.ErrBits
		}
		return int(x), i + 1, api.OK
	}
	if len(s) < maxGroups {
		return 0, 0, api.ErrShort
	}
	return 0, 0, api.ErrBits
}

// PutFixed is a number as so many bytes, the lowest first.
func PutFixed(n, bytes int) (string, api.Errno) {
	if bytes < 1 || bytes > maxBytes || n < 0 || n>>(byteBits*bytes) != 0 {
		return "", api.ErrArg
	}
	out := make([]byte, bytes)
	for i := range bytes {
		out[i] = byte(uint64(n) >> (byteBits * i))
	}
	return string(out), api.OK
}

// Fixed is the number of so many bytes.
func Fixed(s string, bytes int) (int, api.Errno) {
	if bytes < 1 || bytes > maxBytes {
		return 0, api.ErrArg
	}
	if len(s) < bytes {
		return 0, api.ErrShort
	}
	var x uint64
	for i := range bytes {
		x |= uint64(s[i]) << (byteBits * i)
	}
	if x >= 1<<63 {
		return 0, api.ErrBits
	}
	return int(x), api.OK
}

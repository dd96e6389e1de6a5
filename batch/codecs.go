package batch

import (
	"postroad/api"
	"postroad/deflate"
	"postroad/frame"
	"postroad/inflate"
)

// codec packs plain bytes, and tells, out of packed ones, at most so many plain ones and how many bytes it took.
type codec struct {
	pack   func(plain string) (string, api.Errno)
	unpack func(packed string, most int) (string, int, api.Errno)
}

// codecOf is the codec of a number, if there is one.
func codecOf(n int) (codec, bool) {
	codecs := []codec{
		api.CodecNone:    {leave, leaveAtMost},
		api.CodecDeflate: {deflate.Deflate, inflate.Inflate},
		api.CodecLz:      {frame.Pack, frame.Unpack},
	}
	if n < 0 || n >= len(codecs) {
		return codec{}, false
	}
	return codecs[n], true
}

// leave packs by no codec: bytes stay as they are.
func leave(plain string) (string, api.Errno) { return plain, api.OK }

// leaveAtMost unpacks what leave packed.
func leaveAtMost(packed string, most int) (string, int, api.Errno) {
	if len(packed) > most {
		return "", 0, api.ErrLong
	}
	return packed, len(packed), api.OK
}

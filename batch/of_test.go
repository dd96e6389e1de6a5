package batch_test

import (
	"encoding/binary"
	"math"
	"strings"
	"testing"

	"postroad/api"
	"postroad/deflate"
	"postroad/lz"
	"postroad/sums"
)

// right is what the ordinary batch's bytes tell by a codec.
func right(t *testing.T, codec int) told {
	t.Helper()
	return tells(ordinary(), codec, packedBy(t, written(ordinary()), codec))
}

func TestBa2Of(t *testing.T) {
	for _, b := range mayBe() {
		for _, codec := range codecs {
			checkRight(t, tells(b, codec, packedBy(t, written(b), codec)).bytes(), b)
		}
	}
}

// Ba2: bytes that end too soon, wherever.
func TestBa2Short(t *testing.T) {
	for _, codec := range codecs {
		s := right(t, codec).bytes()
		for n := range len(s) {
			checkRefused(t, s[:n], api.ErrShort)
		}
		checkRight(t, s, ordinary())
	}
	for n := range 10 { // fewer than ten bytes are too few, whatever they are
		checkRefused(t, strings.Repeat("x", n), api.ErrShort)
		checkRefused(t, strings.Repeat("\x00", n), api.ErrShort)
	}
}

// Ba2: the beginning is looked at ahead of whether there are enough bytes.
func TestBa2Beginning(t *testing.T) {
	s := right(t, api.CodecNone).bytes()
	for _, two := range []string{"PX", "XB", "pb", "BP", "\x00\x00", "P\x00", "PP", "BB"} {
		checkRefused(t, two+s[2:], api.ErrBatch)
		checkRefused(t, two+s[2:len(s)-1], api.ErrBatch)
		checkRefused(t, two+s[2:10], api.ErrBatch)
		checkRefused(t, two+s[2:9], api.ErrShort)
	}
	checkRefused(t, "x"+s, api.ErrBatch)
	checkRefused(t, s[1:], api.ErrBatch)
}

// Ba2: how many bytes there may be, ahead of whether they are there.
func TestBa2Number(t *testing.T) {
	number := func(n uint32) string {
		return string(binary.LittleEndian.AppendUint32([]byte("PB"), n)) + "\x00\x00\x00\x00"
	}
	room := strings.Repeat("\x00", api.MaxBatch+100)
	for _, n := range []uint32{0, 1, 28, api.MaxBatch + 1, 1 << 20, 1 << 31, math.MaxUint32} {
		checkRefused(t, number(n), api.ErrBatch)
		checkRefused(t, number(n)+room, api.ErrBatch)
	}
	for _, n := range []uint32{29, 30, 1000, api.MaxBatch - 1, api.MaxBatch} {
		checkRefused(t, number(n), api.ErrShort)
		checkRefused(t, number(n)+room[:n-1], api.ErrShort)
		checkRefused(t, number(n)+room[:n], api.ErrBatch) // the sum is another one
	}
	// With the right sum, too.
	checkRefused(t, closed(""), api.ErrBatch)
	checkRefused(t, closed(tells(api.Batch{Count: 1}, 0, "").summed()[:28]), api.ErrBatch)
	checkRight(t, closed(tells(api.Batch{Count: 1}, 0, "").summed()), api.Batch{Count: 1})
	for _, n := range []int{api.MaxBatch, api.MaxBatch + 1} {
		b := filled(n-29, sameLetters)
		s := tells(b, api.CodecNone, written(b)).bytes()
		if n > api.MaxBatch {
			checkRefused(t, s, api.ErrBatch)
		} else {
			checkRight(t, s, b)
		}
	}
}

func TestBa2Sum(t *testing.T) {
	for _, codec := range codecs {
		s := right(t, codec).bytes()
		for i := 6; i < 10; i++ {
			for bit := range 8 {
				spoilt := []byte(s)
				spoilt[i] ^= 1 << bit
				checkRefused(t, string(spoilt), api.ErrBatch)
			}
		}
		checkRefused(t, s[:6]+"\x00\x00\x00\x00"+s[10:], api.ErrBatch)
		// The sum is of all that stands behind it, and of nothing ahead.
		if c := binary.LittleEndian.Uint32([]byte(s[6:])); int(c) != sums.Crc(s[10:]) {
			t.Error(c)
		}
	}
}

// Ba2: a head whose sum is right, and that may not be.
func TestBa2BadHead(t *testing.T) {
	for _, codec := range codecs {
		for i, spoil := range []func(d *told){
			func(d *told) { d.base = lastBase + 1 },
			func(d *told) { d.base = api.MaxOffset },
			func(d *told) { d.base = 1 << 62 },
			func(d *told) { d.base = 1<<63 - 1 },
			func(d *told) { d.base = 1 << 63 },
			func(d *told) { d.base = 1<<63 + 5 },
			func(d *told) { d.base = math.MaxUint64 },
			func(d *told) { d.count = 0 },
			func(d *told) { d.count = 257 },
			func(d *told) { d.count = 512 + 9 },
			func(d *told) { d.count = math.MaxUint16 },
			func(d *told) { d.view = 1 << 31 },
			func(d *told) { d.view = math.MaxUint32 },
			func(d *told) { d.producer = 1 << 31 },
			func(d *told) { d.producer = math.MaxUint32 },
			func(d *told) { d.seq = 1 << 31 },
			func(d *told) { d.seq = math.MaxUint32 },
			func(d *told) { d.codec = 3 },
			func(d *told) { d.codec = 4 },
			func(d *told) { d.codec |= 128 },
			func(d *told) { d.codec = 255 },
		} {
			d := right(t, codec)
			spoil(&d)
			checkRefused(t, d.bytes(), api.ErrBatch)
			if t.Failed() {
				t.Fatal("codec", codec, "head", i)
			}
		}
	}
}

// Ba2: a head that is right, and packed bytes that are not: Head does not look at them, nor at their numbers.
func TestBa2BadPacked(t *testing.T) {
	for _, codec := range codecs {
		for i, spoil := range []func(d *told){
			func(d *told) { d.packed = "" },
			func(d *told) { d.packed = d.packed[:len(d.packed)-1] },
			func(d *told) { d.packed = d.packed[1:] },
			func(d *told) { d.packed += "\x00" },
			func(d *told) { d.packed += d.packed },
			func(d *told) { d.packed = "\xff" + d.packed[1:] },
			func(d *told) { d.plain = 0 },
			func(d *told) { d.plain-- },
			func(d *told) { d.plain++ },
			func(d *told) { d.plain += 1 << 16 },
			func(d *told) { d.plain = api.MaxPlain },
			func(d *told) { d.plain = api.MaxPlain + 1 },
			func(d *told) { d.plain = 1 << 31 },
			func(d *told) { d.plain = math.MaxUint32 },
			func(d *told) { d.records = 0 },
			func(d *told) { d.records-- },
			func(d *told) { d.records++ },
			func(d *told) { d.records += 256 },
			func(d *told) { d.records = math.MaxUint16 },
		} {
			d := right(t, codec)
			spoil(&d)
			checkHeadOnly(t, d.bytes(), ordinary())
			if t.Failed() {
				t.Fatal("codec", codec, "packed", i)
			}
		}
		for other := range 3 { // by a codec that is another one
			d := right(t, codec)
			d.codec = byte(other)
			if other != codec {
				checkHeadOnly(t, d.bytes(), ordinary())
			}
		}
	}
}

// Ba2: packed bytes that are right by themselves, of records that may not be.
func TestBa2BadRecords(t *testing.T) {
	for _, c := range []struct {
		plain   string
		records uint16
	}{
		{"\x09\x00\x01", 1},             // at the batch's end
		{"\xff\x01\x00\x01", 1},         // far behind it
		{"\x00\x00\x01\x09\x00\x01", 2}, // the second one is
		{"\x01\x00\x01\x01\x00\x01", 2}, // offsets that do not rise
		{"\x02\x00\x01\x01\x00\x01", 2},
		{"\xff\xff\xff\xff\xff\xff\xff\xff\x7f\x00\x01", 1}, // that wrap round
		{"\x00\x41" + longKey + "k\x01", 1},
		{"\x00\x00\x82\x20" + longValue + "v", 1},
		{"\x80\x00\x00\x01", 1}, // a number in another form
		{"\x00\x00", 1},
		{"\x00\x00\x01\x00", 1},
		{"\x00", 0},
		{"", 1},
		{strings.Repeat("\x00\x00\x01", 300), 300},
	} {
		for _, codec := range codecs {
			d := tells(bare(ordinary()), codec, packedBy(t, c.plain, codec))
			d.records, d.plain = c.records, uint32(len(c.plain))
			checkHeadOnly(t, d.bytes(), ordinary())
		}
	}
}

// Ba2: records that take more offsets than the batch does, each of which may be at its own place.
func TestBa2Crowd(t *testing.T) {
	b := full()
	for count := 1; count < 256; count += 51 {
		for _, codec := range codecs {
			d := tells(b, codec, packedBy(t, written(b), codec))
			d.count = uint16(count)
			small := b
			small.Count = count
			checkHeadOnly(t, d.bytes(), small)
		}
	}
}

// Ba2: more plain bytes than may be, told and packed as they are.
func TestBa2MaxPlain(t *testing.T) {
	for _, size := range []int{api.MaxPlain, api.MaxPlain + 1} {
		b := filled(size, sameLetters)
		s := tells(b, api.CodecDeflate, flated(t, written(b), 6)).bytes()
		if size > api.MaxPlain {
			checkHeadOnly(t, s, b)
		} else {
			checkRight(t, s, b)
		}
	}
	for _, sizeBit := range []byte{0, 8} {
		b := filled(api.MaxPlain, sameLetters)
		checkRight(t, tells(b, api.CodecLz, frameOf(written(b), sizeBit)).bytes(), b)
		b = filled(api.MaxPlain+1, sameLetters)
		checkHeadOnly(t, tells(b, api.CodecLz, frameOf(written(b), sizeBit)).bytes(), b)
	}
}

// frameOf is an LZ4 frame without sums of blocks and of all: with the size, if that bit is set.
func frameOf(plain string, sizeBit byte) string {
	head := string([]byte{0x60 | sizeBit, 4 << 4})
	if sizeBit != 0 {
		head = string(binary.LittleEndian.AppendUint64([]byte(head), uint64(len(plain))))
	}
	out := []byte("\x04\x22\x4d\x18" + head)
	out = append(out, byte(sums.Hash(head, 0)>>8))
	for ; plain != ""; plain = plain[min(len(plain), 1<<16):] {
		block := plain[:min(len(plain), 1<<16)]
		number := uint32(len(block)) | 1<<31
		if packed, e := lz.Pack(block); e == api.OK && len(packed) < len(block) {
			block, number = packed, uint32(len(packed))
		}
		out = binary.LittleEndian.AppendUint32(out, number)
		out = append(out, block...)
	}
	return string(append(out, 0, 0, 0, 0))
}

// Ba2: bytes that other writers packed are just as right.
func TestBa2OtherWriters(t *testing.T) {
	b := ordinary()
	plain := written(b)
	stored, _ := deflate.Stored(plain)
	fixed, _ := deflate.Fixed(plain)
	parted := "\x00\x02\x00\xfd\xff" + plain[:2] + "\x00\x00\x00\xff\xff"
	rest, _ := deflate.Stored(plain[2:])
	packed := []string{stored, fixed, parted + rest}
	for level := -2; level <= 9; level++ {
		packed = append(packed, flated(t, plain, level))
	}
	for _, p := range packed {
		checkRight(t, tells(b, api.CodecDeflate, p).bytes(), b)
		checkHeadOnly(t, tells(b, api.CodecDeflate, p+"\x00").bytes(), b)
	}
	for _, sizeBit := range []byte{0, 8} {
		p := frameOf(plain, sizeBit)
		checkRight(t, tells(b, api.CodecLz, p).bytes(), b)
		checkHeadOnly(t, tells(b, api.CodecLz, p+"\x00").bytes(), b)
		checkHeadOnly(t, tells(b, api.CodecLz, p+frameOf("", 0)).bytes(), b)
	}
}

// Ba2: Head of whatever is packed.
func TestBa2Head(t *testing.T) {
	b := ordinary()
	for _, codec := range codecs {
		for _, packed := range []string{"", "x", "\xff\xff\xff", strings.Repeat("x", api.MaxBatch-29)} {
			for _, n := range []uint32{0, 1, 5, math.MaxUint32} {
				d := tells(b, codec, packed)
				d.records, d.plain = uint16(n), n
				s := d.bytes()
				checkHead(t, s, b, len(s), api.OK)
				checkHead(t, s+"behind", b, len(s), api.OK)
			}
		}
	}
}

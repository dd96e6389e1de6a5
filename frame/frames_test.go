package frame_test

import (
	"math/rand"
	"strings"
	"testing"

	"postroad/api"
	"postroad/frame"
	"postroad/lz"
	"postroad/sums"
)

const beginning = "\x04\x22\x4d\x18"

// The bits of F, by the chapter's letters.
const (
	letterB = 16
	letterC = 8
	letterS = 4
)

// fixed is a number as so many bytes.
func fixed(n uint64, bytes int) string {
	out := make([]byte, bytes)
	for i := range out {
		out[i] = byte(n >> (8 * i))
	}
	return string(out)
}

func sum(s string) string { return fixed(uint64(sums.Hash(s, 0)), 4) }

// head is a head up to its sum, whatever F, D and the size's bytes are.
func head(f, d int, size string) string {
	told := string([]byte{byte(f), byte(d)}) + size
	return beginning + told + sum(told)[1:2]
}

// held is a block without a sum: its number, and its bytes.
func held(bytes string, plain bool) string {
	n := uint64(len(bytes))
	if plain {
		n += 1 << 31
	}
	return fixed(n, 4) + bytes
}

// shape is what a frame is made of: which of B, C and S are set, k, and its blocks.
type shape struct {
	letters, k int
	blocks     []block
}

// block is the bytes that a block holds, which are plain, or an LZ4 block.
type block struct {
	held  string
	plain bool
}

func (b block) tells() string {
	if b.plain {
		return b.held
	}
	s, _ := lz.Unpack(b.held, api.MaxPlain)
	return s
}

// frame is the frame of a shape, with all its sums, and what it tells.
func (s shape) frame() (frame, plain string) {
	var blocks string
	for _, b := range s.blocks {
		blocks += held(b.held, b.plain)
		if s.letters&letterB != 0 {
			blocks += sum(b.held)
		}
		plain += b.tells()
	}
	var size, all string
	if s.letters&letterC != 0 {
		size = fixed(uint64(len(plain)), 8)
	}
	if s.letters&letterS != 0 {
		all = sum(plain)
	}
	return head(96+s.letters, s.k*16, size) + blocks + "\x00\x00\x00\x00" + all, plain
}

// shapes are frames of each kind, with blocks of each kind.
func shapes() []shape {
	packed := "\x1fx\x01\x00\x00\x00"
	var out []shape
	for letters := 0; letters <= letterB+letterC+letterS; letters += letterS {
		for k := 4; k <= 7; k++ {
			for _, blocks := range [][]block{
				nil,
				{{"abc", true}},
				{{packed, false}},
				{{"\x00", false}},
				{{packed, false}, {"\x00", true}, {"\x00", false}, {packed, true}, {"\x50abcde\x05\x00\x00", false}},
			} {
				out = append(out, shape{letters, k, blocks})
			}
		}
	}
	return out
}

// model is Unpack as the chapter tells it, piece by piece.
func model(s string, most int) (plain string, took int, e api.Errno) {
	defer func() {
		if met, ok := recover().(api.Errno); ok {
			plain, took, e = "", 0, met
		}
	}()
	refuse := func(wrong bool, e api.Errno) {
		if wrong {
			panic(e)
		}
	}
	refuse(most < 0 || most > api.MaxPlain, api.ErrArg)
	bytes := func(n int) string {
		refuse(len(s)-took < n, api.ErrShort)
		took += n
		return s[took-n : took]
	}
	number := func(n int) (x uint64) {
		for i, b := range []byte(bytes(n)) {
			x += uint64(b) << (8 * i)
		}
		return x
	}
	refuse(bytes(4) != beginning, api.ErrFrame)
	f := number(1)
	refuse(f>>5 != 3 || f%4 != 0, api.ErrFrame)
	d := number(1)
	refuse(d%16 != 0 || d/16 < 4 || d/16 > 7, api.ErrFrame)
	room := 256
	for range d / 16 {
		room *= 4
	}
	var size uint64
	if f&letterC != 0 {
		size = number(8)
		refuse(size > 1<<62, api.ErrFrame)
	}
	told := s[4:took]
	refuse(bytes(1) != sum(told)[1:2], api.ErrSum)
	for {
		n := number(4)
		if n == 0 {
			break
		}
		isPlain := n >= 1<<31
		n %= 1 << 31
		refuse(n == 0 || n > uint64(room), api.ErrFrame)
		held := bytes(int(n))
		if f&letterB != 0 {
			refuse(bytes(4) != sum(held), api.ErrSum)
		}
		if !isPlain {
			unpacked, e := lz.Unpack(held, min(room, api.MaxPlain))
			refuse(e == api.ErrLong && room <= api.MaxPlain, api.ErrFrame)
			refuse(e != api.OK, e)
			held = unpacked
		}
		plain += held
		refuse(len(plain) > most, api.ErrLong)
	}
	refuse(f&letterC != 0 && size != uint64(len(plain)), api.ErrFrame)
	if f&letterS != 0 {
		refuse(bytes(4) != sum(plain), api.ErrSum)
	}
	return plain, took, api.OK
}

func checkUnpack(t *testing.T, s string, most int, plain string, took int, errno api.Errno) {
	t.Helper()
	got, n, e := frame.Unpack(s, most)
	if got != plain || n != took || e != errno {
		if len(s) > 100 {
			s = s[:100]
		}
		t.Errorf("Unpack(%q, %d): %d bytes out of %d, %v, want %d bytes out of %d, %v",
			s, most, len(got), n, e, len(plain), took, errno)
	}
}

func checkRefused(t *testing.T, s string, most int, errno api.Errno) {
	t.Helper()
	checkUnpack(t, s, most, "", 0, errno)
}

// noise is bytes below a number, each as likely as the others.
func noise(n, below int, seed int64) string {
	source := rand.New(rand.NewSource(seed))
	out := make([]byte, n)
	for i := range out {
		out[i] = byte(source.Intn(below))
	}
	return string(out)
}

// texts are of many kinds, of no block, one and several, which are plain and packed.
func texts() map[string]string {
	return map[string]string{
		"nothing":        "",
		"one byte":       "x",
		"a word":         "hello",
		"a word again":   "hello hello hello hello hello",
		"noughts":        strings.Repeat("\x00", 100000),
		"noise":          noise(150000, 256, 1),
		"noise of few":   noise(150000, 3, 2),
		"again":          strings.Repeat("abc", 50000),
		"noise, noughts": noise(65536, 256, 3) + strings.Repeat("\x00", 65536) + noise(10, 256, 4),
		"noughts, noise": strings.Repeat("\x00", 65536) + noise(65536, 256, 5) + strings.Repeat("\x00", 100),
		"block again":    strings.Repeat(noise(65536, 256, 6), 2),
	}
}

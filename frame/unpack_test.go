package frame_test

import (
	"fmt"
	"math"
	"math/rand"
	"strings"
	"testing"

	"postroad/api"
	"postroad/frame"
)

// Fr1: frames that were written elsewhere, of each kind.
func TestFr1Frames(t *testing.T) {
	hello := "hello hello hello hello hello"
	block := "\x0f\x00\x00\x00\x6ehello \x06\x00\x50hello"
	for _, c := range []struct {
		frame, plain string
	}{
		{beginning + "\x74\x40\xbd\x00\x00\x00\x00\x05\x5d\xcc\x02", ""},
		{beginning + "\x64\x40\xa7\x00\x00\x00\x00\x05\x5d\xcc\x02", ""},
		{beginning + "\x64\x40\xa7" + block + "\x00\x00\x00\x00\x79\xb1\xff\xf9", hello},
		{beginning + "\x74\x40\xbd" + block + "\x98\xf6\xdc\x6d\x00\x00\x00\x00\x79\xb1\xff\xf9", hello},
		{beginning + "\x6c\x40\x1d\x00\x00\x00\x00\x00\x00\x00\x3e" + block + "\x00\x00\x00\x00\x79\xb1\xff\xf9", hello},
		{beginning + "\x60\x40\x82" + block + "\x00\x00\x00\x00", hello},
		{beginning + "\x78\x40\x1d\x00\x00\x00\x00\x00\x00\x00\x1a" + block + "\x98\xf6\xdc\x6d\x00\x00\x00\x00", hello},
	} {
		checkWhole(t, c.frame, c.plain)
	}
}

// checkWhole holds a frame to what it tells, whatever stands behind it, and each beginning of it to ErrShort.
func checkWhole(t *testing.T, whole, plain string) {
	t.Helper()
	for _, behind := range []string{"", "x", "\x00\x00\x00\x00", whole} {
		for _, most := range []int{len(plain), len(plain) + 1, api.MaxPlain} {
			checkUnpack(t, whole+behind, most, plain, len(whole), api.OK)
		}
	}
	for n := range whole {
		checkRefused(t, whole[:n], api.MaxPlain, api.ErrShort)
	}
	if plain != "" {
		checkRefused(t, whole, len(plain)-1, api.ErrLong)
	}
}

// Fr1: frames with and without sums and a size, with blocks that are plain, packed and without plain bytes.
func TestFr1Kinds(t *testing.T) {
	for _, s := range shapes() {
		whole, plain := s.frame()
		checkWhole(t, whole, plain)
	}
}

// Fr1: most is 0 to MaxPlain, whatever the bytes are.
func TestFr1Most(t *testing.T) {
	nothing, _ := frame.Pack("")
	for _, s := range []string{"", "x", "xxxx", nothing, nothing[:9]} {
		for _, most := range []int{-1, math.MinInt, api.MaxPlain + 1, math.MaxInt} {
			checkRefused(t, s, most, api.ErrArg)
		}
	}
	checkUnpack(t, nothing, 0, "", len(nothing), api.OK)
}

// Fr1: the first four bytes are read, and then looked at.
func TestFr1Beginning(t *testing.T) {
	whole, _ := frame.Pack("hello")
	for at := range beginning {
		for x := range 256 {
			other := beginning[:at] + string([]byte{byte(x)}) + beginning[at+1:]
			if other == beginning {
				continue
			}
			checkRefused(t, other, 99, api.ErrFrame)
			checkRefused(t, other+whole[4:], 99, api.ErrFrame)
			checkRefused(t, other[:3], 99, api.ErrShort)
		}
	}
	checkRefused(t, "\x50\x2a\x4d\x18", 99, api.ErrFrame)
}

// Fr1: F and D, each of which is looked at behind itself.
func TestFr1FlagsAndBlockMost(t *testing.T) {
	for x := range 256 {
		f := beginning + string([]byte{byte(x)})
		want := api.ErrFrame
		if x >= 96 && x < 128 && x%4 == 0 {
			want = api.ErrShort
		}
		checkRefused(t, f, 99, want)
		checkRefused(t, f+"\x40", 99, want)
		checkRefused(t, f+"\x00", 99, api.ErrFrame)

		d := beginning + "\x60" + string([]byte{byte(x)})
		want = api.ErrFrame
		if x == 64 || x == 80 || x == 96 || x == 112 {
			want = api.ErrShort
		}
		checkRefused(t, d, 99, want)
		checkRefused(t, head(0x60, x, "")+"\x00\x00\x00", 99, want)
	}
}

// Fr1: a size is refused above 2^62, behind its eight bytes, ahead of the head's sum.
func TestFr1Sizes(t *testing.T) {
	for _, c := range []struct {
		size  uint64
		errno api.Errno
	}{
		{0, api.ErrShort},
		{1, api.ErrShort},
		{1<<62 - 1, api.ErrShort},
		{1 << 62, api.ErrShort},
		{1<<62 + 1, api.ErrFrame},
		{1<<63 - 1, api.ErrFrame},
		{1 << 63, api.ErrFrame},
		{1<<63 + 1, api.ErrFrame},
		{1<<64 - 1, api.ErrFrame},
	} {
		whole := head(0x6c, 0x40, fixed(c.size, 8))
		checkRefused(t, whole[:13], 99, api.ErrShort)
		checkRefused(t, whole[:14], 99, c.errno)
		checkRefused(t, whole, 99, c.errno)
		want := c.errno
		if want == api.ErrShort {
			want = api.ErrSum
		}
		checkRefused(t, whole[:14]+string([]byte{whole[14] + 1}), 99, want)
	}
}

// Fr1: a size that is told is that of the plain bytes; it is looked at behind the four noughts, ahead of the sum of all.
func TestFr1SizeIsTheirs(t *testing.T) {
	for _, c := range []struct {
		blocks string
		size   uint64
	}{
		{"", 0},
		{held("abc", true), 3},
		{held("\x1fx\x01\x00\x00\x00", false), 20},
		{held("abc", true) + held("\x00", false) + held("\x20de", false), 5},
	} {
		for _, size := range []uint64{0, 1, 2, 3, 4, 5, 19, 20, 21, 1 << 32, 1<<32 + c.size, 1 << 62} {
			for _, behind := range []string{"", "\x00\x00\x00", "\x00\x00\x00\x00"} {
				for _, f := range []int{0x68, 0x6c} {
					want := api.ErrFrame
					if size == c.size && f == 0x68 {
						continue
					}
					if size == c.size {
						want = api.ErrShort
					}
					if size == c.size && len(behind) == 4 {
						want = api.ErrSum
					}
					checkRefused(t, head(f, 0x40, fixed(size, 8))+c.blocks+"\x00\x00\x00\x00"+behind, 99, want)
					checkRefused(t, head(f, 0x40, fixed(size, 8))+c.blocks+"\x00\x00\x00", 99, api.ErrShort)
				}
			}
		}
	}
}

// Fr1: the head's sum is that of F, D and the size, and of those alone.
func TestFr1HeadSum(t *testing.T) {
	for _, size := range []string{"", fixed(3, 8)} {
		f := 0x60
		if size != "" {
			f = 0x68
		}
		whole := head(f, 0x50, size)
		for x := range 256 {
			other := whole[:len(whole)-1] + string([]byte{byte(x)})
			if other == whole {
				continue
			}
			checkRefused(t, other, 99, api.ErrSum)
			checkRefused(t, other+held("abc", true)+"\x00\x00\x00\x00", 99, api.ErrSum)
		}
		checkUnpack(t, whole+held("abc", true)+"\x00\x00\x00\x00", 99, "abc", len(whole)+11, api.OK)
	}
}

// Fr1: a block's number is looked at behind its four bytes, whatever stands behind them.
func TestFr1BlockNumbers(t *testing.T) {
	for k := 4; k <= 7; k++ {
		most := uint64(1) << (8 + 2*k)
		begun := head(0x60, k*16, "") + held("ab", true)
		for _, kind := range []uint64{0, 1 << 31} {
			for _, n := range []uint64{1, 2, most - 1, most} {
				checkRefused(t, begun+fixed(kind+n, 4), 99, api.ErrShort)
			}
			for _, n := range []uint64{most + 1, 2 * most, 1<<31 - 1, 1 << 30} {
				checkRefused(t, begun+fixed(kind+n, 4)[:3], 99, api.ErrShort)
				checkRefused(t, begun+fixed(kind+n, 4), 99, api.ErrFrame)
				checkRefused(t, begun+fixed(kind+n, 4)+strings.Repeat("x", 100), 0, api.ErrLong)
				checkRefused(t, begun+fixed(kind+n, 4)+strings.Repeat("x", 100), 2, api.ErrFrame)
			}
		}
		checkRefused(t, begun+"\x00\x00\x00\x80", 99, api.ErrFrame)
		checkRefused(t, begun+"\x00\x00\x00\x80\x00\x00\x00\x00", 99, api.ErrFrame)
		checkUnpack(t, begun+"\x00\x00\x00\x00", 99, "ab", len(begun)+4, api.OK)
	}
}

// Fr1: a plain block has as many bytes as it may, or it is longer than most.
func TestFr1LongPlainBlocks(t *testing.T) {
	text := noise(1<<22, 256, 1)
	for k := 4; k <= 7; k++ {
		n := 1 << (8 + 2*k)
		whole, plain := shape{letterB + letterC + letterS, k, []block{{text[:n], true}}}.frame()
		if n > api.MaxPlain {
			checkRefused(t, whole, api.MaxPlain, api.ErrLong)
			continue
		}
		checkUnpack(t, whole, n, plain, len(whole), api.OK)
		checkRefused(t, whole, n-1, api.ErrLong)
	}
	whole, plain := shape{letterB + letterS, 7, []block{{text[:api.MaxPlain], true}}}.frame()
	checkUnpack(t, whole, api.MaxPlain, plain, len(whole), api.OK)
	whole, _ = shape{letterB + letterS, 7, []block{{text[:api.MaxPlain+1], true}}}.frame()
	checkRefused(t, whole, api.MaxPlain, api.ErrLong)
}

// run is an LZ4 block of a byte again and again, 20 times at least.
func run(n int) string {
	left := n - 20
	return "\x1fx\x01\x00" + strings.Repeat("\xff", left/255) + string([]byte{byte(left % 255)}) + "\x00"
}

// Fr1: a packed block tells as many as it may; more are ErrFrame where layer 6 could have told them, and ErrLong where
// it could not.
func TestFr1LongPackedBlocks(t *testing.T) {
	for k := 4; k <= 7; k++ {
		n := min(1<<(8+2*k), api.MaxPlain)
		whole, plain := shape{letterB + letterS, k, []block{{run(n), false}}}.frame()
		if len(plain) != n {
			t.Fatal(len(plain))
		}
		checkUnpack(t, whole, n, plain, len(whole), api.OK)
		checkRefused(t, whole, n-1, api.ErrLong)

		want := api.ErrFrame
		if k == 7 {
			want = api.ErrLong
		}
		for _, more := range []int{n + 1, n + 1000, 2 * n} {
			begun := head(0x70, k*16, "") + held(run(more), false)
			for _, most := range []int{0, 100, n - 1, n, api.MaxPlain} {
				checkRefused(t, begun+sum(run(more)), most, want)
			}
			checkRefused(t, begun+"\x00\x00\x00\x00", 99, api.ErrSum)
		}
	}
}

// Fr1: what layer 6 refuses of a packed block, behind its sum; a plain one may hold anything.
func TestFr1PackedBlocks(t *testing.T) {
	for _, c := range []struct {
		held  string
		errno api.Errno
	}{
		{"\x10", api.ErrShort},
		{"\x10x\x01\x00", api.ErrShort},
		{"\x30xy", api.ErrShort},
		{"\x10x\x00\x00\x00", api.ErrLz},
		{"\x10x\x02\x00\x00", api.ErrLz},
		{"\xff", api.ErrShort},
		{"\xff\xff\xff\xff\x01", api.ErrShort},
		{"\x1fx\x01\x00" + strings.Repeat("\xff", 300) + "\x00\x00", api.ErrFrame},
	} {
		for _, most := range []int{0, 9, api.MaxPlain} {
			begun := head(0x70, 0x40, "") + held(c.held, false)
			checkRefused(t, begun+sum(c.held), most, c.errno)
			checkRefused(t, begun+sum(c.held)+"\x00\x00\x00\x00", most, c.errno)
			checkRefused(t, begun+sum(c.held)[:3], most, api.ErrShort)
			checkRefused(t, begun+sum(c.held+"x"), most, api.ErrSum)
			checkRefused(t, head(0x60, 0x40, "")+held(c.held, false), most, c.errno)
		}
		whole, plain := shape{letterB, 4, []block{{c.held, true}}}.frame()
		checkUnpack(t, whole, len(plain), c.held, len(whole), api.OK)
	}
}

// Fr1: a block's own bytes are all that it copies from.
func TestFr1BlocksByThemselves(t *testing.T) {
	whole, _ := shape{0, 4, []block{{"abcdef", true}, {"\x10x\x02\x00\x00", false}}}.frame()
	checkRefused(t, whole, 99, api.ErrLz)
}

// Fr1: more than most are told behind the block that has them, and behind its sum.
func TestFr1Long(t *testing.T) {
	abc, long := held("abc", true), held("\x1fx\x01\x00\x00\x00", false)
	packed := long[4:]
	for _, c := range []struct {
		s     string
		most  int
		errno api.Errno
	}{
		{head(0x60, 0x40, "") + abc, 2, api.ErrLong},
		{head(0x60, 0x40, "") + abc, 3, api.ErrShort},
		{head(0x60, 0x40, "") + abc[:6], 2, api.ErrShort},
		{head(0x60, 0x40, "") + abc + "\xff\xff\xff\xff", 2, api.ErrLong},
		{head(0x60, 0x40, "") + abc + "\xff\xff\xff\xff", 3, api.ErrFrame},
		{head(0x60, 0x40, "") + abc + abc, 5, api.ErrLong},
		{head(0x60, 0x40, "") + abc + abc, 6, api.ErrShort},
		{head(0x60, 0x40, "") + abc + long, 22, api.ErrLong},
		{head(0x60, 0x40, "") + abc + long, 23, api.ErrShort},
		{head(0x60, 0x40, "") + long + abc, 19, api.ErrLong},
		{head(0x60, 0x40, "") + long + abc, 22, api.ErrLong},
		{head(0x60, 0x40, "") + long + held("\x00", false), 19, api.ErrLong},
		{head(0x70, 0x40, "") + abc, 2, api.ErrShort},
		{head(0x70, 0x40, "") + abc + "1234", 2, api.ErrSum},
		{head(0x70, 0x40, "") + abc + sum("abc"), 2, api.ErrLong},
		{head(0x70, 0x40, "") + long + sum(packed), 19, api.ErrLong},
		{head(0x70, 0x40, "") + long + sum(packed), 20, api.ErrShort},
		// A size that is told says nothing ahead of the blocks.
		{head(0x68, 0x40, fixed(100, 8)), 2, api.ErrShort},
		{head(0x68, 0x40, fixed(100, 8)) + abc, 2, api.ErrLong},
		{head(0x68, 0x40, fixed(2, 8)) + abc, 3, api.ErrShort},
		{head(0x68, 0x40, fixed(2, 8)) + abc + "\x00\x00\x00\x00", 2, api.ErrLong},
	} {
		checkRefused(t, c.s, c.most, c.errno)
	}
}

// Fr1: each sum, each byte of it.
func TestFr1Sums(t *testing.T) {
	whole, _ := shape{letterB + letterS, 5, []block{{"abc", true}, {"\x20de", false}}}.frame()
	first, second, all := 7+4+3, 7+11+4+3, len(whole)-4
	for _, at := range []int{first, second, all} {
		for i := range 4 {
			for x := 1; x < 256; x++ {
				other := []byte(whole)
				other[at+i] ^= byte(x)
				checkRefused(t, string(other), 99, api.ErrSum)
			}
		}
	}
	// The sum of all is that of the plain bytes, not of those that blocks hold.
	checkRefused(t, head(0x64, 0x40, "")+held("\x20de", false)+"\x00\x00\x00\x00"+sum("\x20de"), 99, api.ErrSum)
	checkRefused(t, head(0x70, 0x40, "")+held("\x20de", false)+sum("de"), 99, api.ErrSum)
}

// Fr1: each byte of frames is another one: what is met first is told, as the chapter has it.
func TestFr1Broken(t *testing.T) {
	for _, s := range shapes() {
		whole, plain := s.frame()
		for at := range whole {
			for _, x := range []byte{0, 1, 4, 16, 0x7f, 0x80, 0xff, whole[at] ^ 1, whole[at] + 1} {
				checkLikeModel(t, whole[:at]+string([]byte{x})+whole[at+1:], len(plain))
				checkLikeModel(t, whole[:at]+string([]byte{x})+whole[at:], api.MaxPlain)
			}
			checkLikeModel(t, whole[:at]+whole[at+1:], len(plain))
			checkLikeModel(t, whole[:at], 0)
		}
	}
}

func checkLikeModel(t *testing.T, s string, most int) {
	t.Helper()
	plain, took, e := model(s, most)
	checkUnpack(t, s, most, plain, took, e)
}

// Fr1, R1: out of whatever bytes comes an answer.
func TestFr1WhateverBytes(t *testing.T) {
	source := rand.New(rand.NewSource(2))
	for i := range 20000 {
		s := noise(source.Intn(60), 256, int64(i))
		most := source.Intn(50)
		checkLikeModel(t, s, most)
		checkLikeModel(t, beginning+s, most)
		// Behind a head that is right stand small numbers, so that there are blocks.
		blocks := ""
		for range source.Intn(6) {
			n := source.Intn(12)
			number := uint64(n)
			if source.Intn(2) == 0 {
				number += 1 << 31
			}
			held := noise(n, []int{256, 40, 2}[source.Intn(3)], source.Int63())
			blocks += fixed(number, 4) + held
			if i%2 == 0 && source.Intn(8) != 0 {
				blocks += sum(held)
			}
		}
		f := 0x60 + i%2*4 + (1-i%2)*16
		checkLikeModel(t, head(f, 0x40+i%4*16, "")+blocks+"\x00\x00\x00\x00"+noise(5, 2, int64(i)), most)
	}
}

// R1: it ends soon, also where blocks without plain bytes come again and again.
func TestR1ManyBlocks(t *testing.T) {
	blocks := strings.Repeat(held("\x00", false), 1<<19)
	whole := head(0x60, 0x70, "") + blocks + "\x00\x00\x00\x00"
	checkUnpack(t, whole, 0, "", len(whole), api.OK)
	checkRefused(t, whole[:len(whole)-1], 0, api.ErrShort)
	bombs := strings.Repeat(held(run(api.MaxPlain), false), 100)
	checkRefused(t, head(0x60, 0x70, "")+bombs, api.MaxPlain, api.ErrLong)
}

// R2: beside an error there is nothing, however much was told ahead of it.
func TestR2NothingBesideAnError(t *testing.T) {
	for _, text := range []string{"hello", noise(1000, 256, 3), strings.Repeat("abc", 50000)} {
		whole, _ := frame.Pack(text)
		for _, s := range []string{whole[:len(whole)-1], whole[:len(whole)-1] + "\xfe" + "x", whole[:len(whole)-9]} {
			plain, took, e := frame.Unpack(s, api.MaxPlain)
			if plain != "" || took != 0 || e == api.OK {
				t.Errorf("%d bytes out of %d, %v", len(plain), took, e)
			}
		}
	}
}

func ExampleUnpack() {
	z, _ := frame.Pack("hello")
	s, n, e := frame.Unpack(z+" and more", 99)
	fmt.Println(s, n == len(z), e)
	// Output: hello true 0
}

package sums_test

import (
	"hash/crc32"
	"math"
	"strings"
	"testing"
	"unsafe"

	"postroad/api"
	"postroad/sums"
)

const (
	maxInt  = math.MaxInt64
	minInt  = math.MinInt64
	maxWord = 1<<32 - 1
)

// sequence is bytes of all kinds, the same ones each time.
func sequence(n int) string {
	out := make([]byte, n)
	x := uint32(1)
	for i := range out {
		x = x*1664525 + 1013904223
		out[i] = byte(x >> 24)
	}
	return string(out)
}

// bitwiseCrc is CRC-32C as the chapter's words say it, bit by bit.
func bitwiseCrc(s string) int {
	c := uint32(maxWord)
	for i := range len(s) {
		c ^= uint32(s[i])
		for range 8 {
			out := c & 1
			c >>= 1
			if out == 1 {
				c ^= 2197175160
			}
		}
	}
	return int(^c)
}

// hashOfWhole is xxHash32 as the chapter's words say it, of all bytes at once.
func hashOfWhole(s string, seed uint32) int {
	const P1, P2, P3, P4, P5 = 2654435761, 2246822519, 3266489917, 668265263, 374761393
	turned := func(x uint32, n int) uint32 { return x<<n | x>>(32-n) }
	word := func(s string) uint32 {
		return uint32(s[0]) + uint32(s[1])<<8 + uint32(s[2])<<16 + uint32(s[3])<<24
	}
	n := uint32(len(s))
	h := seed + P5
	if len(s) >= 16 {
		a, b, c, d := seed+P1+P2, seed+P2, seed, seed-P1
		for ; len(s) >= 16; s = s[16:] {
			a = turned(a+word(s)*P2, 13) * P1
			b = turned(b+word(s[4:])*P2, 13) * P1
			c = turned(c+word(s[8:])*P2, 13) * P1
			d = turned(d+word(s[12:])*P2, 13) * P1
		}
		h = turned(a, 1) + turned(b, 7) + turned(c, 12) + turned(d, 18)
	}
	h += n
	for ; len(s) >= 4; s = s[4:] {
		h = turned(h+word(s)*P3, 17) * P4
	}
	for ; len(s) > 0; s = s[1:] {
		h = turned(h+uint32(s[0])*P5, 11) * P1
	}
	h = (h ^ h>>15) * P2
	h = (h ^ h>>13) * P3
	return int(h ^ h>>16)
}

func wantCrc(t *testing.T, s string, want int) {
	t.Helper()
	if got := sums.Crc(s); got != want {
		t.Errorf("Crc of %d bytes: %d, want %d", len(s), got, want)
	}
}

func wantCrcMore(t *testing.T, crc int, s string, want int, e api.Errno) {
	t.Helper()
	if got, gotE := sums.CrcMore(crc, s); got != want || gotE != e {
		t.Errorf("CrcMore(%d, %d bytes): %d %d, want %d %d", crc, len(s), got, gotE, want, e)
	}
}

func wantHash(t *testing.T, s string, seed, want int) {
	t.Helper()
	if got := sums.Hash(s, seed); got != want {
		t.Errorf("Hash of %d bytes by %d: %d, want %d", len(s), seed, got, want)
	}
}

func wantSum(t *testing.T, h *sums.Hasher, want int) {
	t.Helper()
	if got := h.Sum(); got != want {
		t.Errorf("Sum: %d, want %d", got, want)
	}
}

func wantWrite(t *testing.T, h *sums.Hasher, s string, e api.Errno) {
	t.Helper()
	if got := h.Write(s); got != e {
		t.Errorf("Write of %d bytes: %d, want %d", len(s), got, e)
	}
}

func newHasher(t *testing.T, seed int) *sums.Hasher {
	t.Helper()
	h, e := sums.NewHasher(seed)
	if h == nil || e != api.OK {
		t.Fatalf("NewHasher(%d): %v %d", seed, h, e)
	}
	return h
}

// Su1: the chapter's example, and others that are known.
func TestSu1CrcKnown(t *testing.T) {
	wantCrc(t, "123456789", 3808858755)
	wantCrc(t, "", 0)
	wantCrc(t, "a", 0xC1D04330)
	wantCrc(t, strings.Repeat("\x00", 32), 0x8A9136AA)
	wantCrc(t, strings.Repeat("\xff", 32), 0x62A8AB43)
	wantCrc(t, "\xff\xff\xff\xff", maxWord)
}

// Su1: each byte's share, at each value that c's lowest byte has behind another one.
func TestSu1CrcOfBytes(t *testing.T) {
	for first := range 256 {
		wantCrc(t, string([]byte{byte(first)}), bitwiseCrc(string([]byte{byte(first)})))
		for second := range 256 {
			s := string([]byte{byte(first), byte(second)})
			wantCrc(t, s, bitwiseCrc(s))
		}
	}
}

// Su1: bytes of all lengths; the library's sum of the same kind says the same.
func TestSu1CrcOfLengths(t *testing.T) {
	table := crc32.MakeTable(crc32.Castagnoli)
	all := sequence(1 << 12)
	for n := 0; n <= len(all); n += 1 + n/50 {
		wantCrc(t, all[:n], bitwiseCrc(all[:n]))
		wantCrc(t, all[:n], int(crc32.Checksum([]byte(all[:n]), table)))
	}
	large := sequence(1 << 20)
	wantCrc(t, large, int(crc32.Checksum([]byte(large), table)))
}

// Su1: CrcMore goes on from a sum; every number of 32 bits is one, the least and the greatest too.
func TestSu1CrcMore(t *testing.T) {
	wantCrcMore(t, sums.Crc("1234"), "56789", 3808858755, api.OK)
	wantCrcMore(t, 0, "123456789", 3808858755, api.OK)
	wantCrcMore(t, 3808858755, "", 3808858755, api.OK)
	wantCrcMore(t, 0, "", 0, api.OK)
	wantCrcMore(t, maxWord, "", maxWord, api.OK)
	wantCrcMore(t, 1<<31, "", 1<<31, api.OK)
	wantCrcMore(t, maxWord, "abc", bitwiseCrc("\xff\xff\xff\xffabc"), api.OK)
}

// Su1: a number that is no sum is refused, with nothing beside it.
func TestSu1CrcMoreWrong(t *testing.T) {
	for _, crc := range []int{-1, 1 << 32, 1<<32 + 1, -1 << 31, -1 << 32, 1 << 40, minInt, maxInt} {
		wantCrcMore(t, crc, "", 0, api.ErrArg)
		wantCrcMore(t, crc, "123456789", 0, api.ErrArg)
	}
}

// Su1: the chapter's example, and others that are known.
func TestSu1HashKnown(t *testing.T) {
	wantHash(t, "", 0, 46947589)
	wantHash(t, "", 2654435761, 0x36B78AE7)
	wantHash(t, "a", 0, 0x550D7456)
	wantHash(t, "abc", 0, 852579327)
	wantHash(t, "Nobody inspects the spammish repetition", 0, 0xE2293B2F)
}

// Su1: all lengths about a stripe's, a word's and a byte's ends, by seeds from the least to the greatest.
func TestSu1HashOfLengths(t *testing.T) {
	all := sequence(300)
	for _, seed := range []int{0, 1, 2654435761, 1 << 31, maxWord} {
		for n := range len(all) + 1 {
			wantHash(t, all[:n], seed, hashOfWhole(all[:n], uint32(seed)))
		}
	}
	large := sequence(1<<20 + 7)
	wantHash(t, large, 5, hashOfWhole(large, 5))
	ones := strings.Repeat("\xff", 31)
	wantHash(t, ones, maxWord, hashOfWhole(ones, maxWord))
}

// Su1: Hash takes its seed modulo 2^32, whatever it is.
func TestSu1HashSeed(t *testing.T) {
	for _, s := range []string{"", "abc", sequence(40)} {
		for _, pair := range [][2]int{{1 << 32, 0}, {1<<32 + 7, 7}, {-1, maxWord}, {-1 << 32, 0}, {-1<<32 - 1, maxWord},
			{-1 << 31, 1 << 31}, {minInt, 0}, {minInt + 3, 3}, {maxInt, maxWord}} {
			wantHash(t, s, pair[0], hashOfWhole(s, uint32(pair[1])))
		}
	}
	if sums.Hash("abc", 0) == sums.Hash("abc", 1) {
		t.Error("Hash does not hang on its seed")
	}
}

// Su2: a hasher that took none, and what it took since; Sum changes nothing, and it goes on.
func TestSu2GoesOn(t *testing.T) {
	all := sequence(100)
	for _, seed := range []int{0, 1, 1 << 31, maxWord} {
		h := newHasher(t, seed)
		wantSum(t, h, hashOfWhole("", uint32(seed)))
		for i := range len(all) {
			wantWrite(t, h, all[i:i+1], api.OK)
			wantSum(t, h, hashOfWhole(all[:i+1], uint32(seed)))
			wantSum(t, h, hashOfWhole(all[:i+1], uint32(seed)))
		}
		wantWrite(t, h, "", api.OK)
		wantSum(t, h, hashOfWhole(all, uint32(seed)))
	}
}

// Su2: the seed may be any number of 32 bits, and no other.
func TestSu2Seed(t *testing.T) {
	for _, seed := range []int{-1, 1 << 32, -1 << 32, 1 << 40, minInt, maxInt} {
		if h, e := sums.NewHasher(seed); h != nil || e != api.ErrArg {
			t.Errorf("NewHasher(%d): %v %d", seed, h, e)
		}
	}
	wantSum(t, newHasher(t, 0), 46947589)
	wantSum(t, newHasher(t, 2654435761), 0x36B78AE7)
	wantSum(t, newHasher(t, maxWord), hashOfWhole("", maxWord))
}

// Su2, R4: hashers have nothing in common.
func TestSu2TwoHashers(t *testing.T) {
	a, b := newHasher(t, 1), newHasher(t, 2)
	all := sequence(50)
	for i := range len(all) {
		wantWrite(t, a, all[i:i+1], api.OK)
		wantWrite(t, b, all[len(all)-1-i:len(all)-i], api.OK)
	}
	back := []byte(all)
	for i := range len(back) / 2 {
		back[i], back[len(back)-1-i] = back[len(back)-1-i], back[i]
	}
	wantSum(t, a, hashOfWhole(all, 1))
	wantSum(t, b, hashOfWhole(string(back), 2))
}

// Su3: wherever bytes are cut in two or three, their sums are those of the whole.
func TestSu3Cuts(t *testing.T) {
	all := sequence(70)
	crc, hash := bitwiseCrc(all), hashOfWhole(all, 9)
	for i := range len(all) + 1 {
		for j := i; j <= len(all); j++ {
			h := newHasher(t, 9)
			c := 0
			for _, part := range []string{all[:i], all[i:j], all[j:]} {
				var e api.Errno
				if c, e = sums.CrcMore(c, part); e != api.OK {
					t.Fatal(e)
				}
				wantWrite(t, h, part, api.OK)
			}
			if c != crc {
				t.Errorf("cut at %d and %d: CrcMore tells %d, want %d", i, j, c, crc)
			}
			wantSum(t, h, hash)
		}
	}
}

// Su3: parts of one size each, from a byte to more than all.
func TestSu3Parts(t *testing.T) {
	all := sequence(997)
	crc, hash := bitwiseCrc(all), hashOfWhole(all, 0)
	for size := 1; size < 1200; size += 1 + size/40 {
		h := newHasher(t, 0)
		c := sums.Crc("")
		for rest := all; len(rest) > 0; {
			n := min(size, len(rest))
			c, _ = sums.CrcMore(c, rest[:n])
			h.Write(rest[:n])
			rest = rest[n:]
		}
		if c != crc {
			t.Errorf("parts of %d: CrcMore tells %d, want %d", size, c, crc)
		}
		wantSum(t, h, hash)
	}
}

// R1: nil, the zero value and a copy are none that NewHasher gave.
func TestR1Hashers(t *testing.T) {
	given := newHasher(t, 3)
	wantWrite(t, given, "abc", api.OK)
	copied := *given
	for _, h := range []*sums.Hasher{nil, {}, new(sums.Hasher), &copied} {
		wantWrite(t, h, "", api.ErrArg)
		wantWrite(t, h, "abc", api.ErrArg)
		wantSum(t, h, 0)
		wantWrite(t, h, sequence(40), api.ErrArg)
		wantSum(t, h, 0)
	}
	wantSum(t, given, hashOfWhole("abc", 3))
}

// R2: what was refused has changed nothing.
func TestR2Refused(t *testing.T) {
	h := newHasher(t, 3)
	wantWrite(t, h, "abc", api.OK)
	sums.NewHasher(-1)
	sums.CrcMore(-1, "abc")
	wantSum(t, h, hashOfWhole("abc", 3))
	wantCrc(t, "123456789", 3808858755)
}

// R3: what is handed in is not kept: a hasher has bytes of its own, and does not see what becomes of the caller's.
func TestR3NotKept(t *testing.T) {
	for _, n := range []int{1, 10, 16, 25} {
		room := []byte(sequence(n))
		want := hashOfWhole(string(room), 0)
		h := newHasher(t, 0)
		wantWrite(t, h, unsafe.String(&room[0], n), api.OK)
		clear(room)
		wantSum(t, h, want)
	}
}

// R4: what is answered hangs on the arguments alone.
func TestR4Again(t *testing.T) {
	s := sequence(123)
	for range 3 {
		wantCrc(t, s, bitwiseCrc(s))
		wantCrcMore(t, 77, s, int(crc32.Update(77, crc32.MakeTable(crc32.Castagnoli), []byte(s))), api.OK)
		wantHash(t, s, 4, hashOfWhole(s, 4))
	}
}

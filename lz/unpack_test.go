package lz_test

import (
	"fmt"
	"math"
	"math/rand"
	"strings"
	"testing"

	"postroad/api"
	"postroad/lz"
)

func checkUnpack(t *testing.T, block string, most int, plain string, errno api.Errno) {
	t.Helper()
	got, e := lz.Unpack(block, most)
	if got != plain || e != errno {
		if len(block) > 100 {
			block = block[:100]
		}
		t.Errorf("Unpack(%q, %d): %d bytes, %v, want %d bytes, %v", block, most, len(got), e, len(plain), errno)
	}
}

// Lz1: the chapter's examples, and blocks of each form.
func TestLz1Plain(t *testing.T) {
	for _, c := range []struct {
		block, plain string
	}{
		{"\x00", ""},
		{"\x10x", "x"},
		{"\x1fx\x01\x00\x00\x00", strings.Repeat("x", 20)},
		// What the last sequence would copy has no meaning.
		{"\x0f", ""},
		{"\x1fx", "x"},
		{"\x17x", "x"},
		{"\x10x\x01\x00\x00", "xxxxx"},
		{"\x10x\x01\x00\x10y", "xxxxxy"},
		{"\x20xy\x02\x00\x00", "xyxyxy"},
		{"\x21xy\x02\x00\x00", "xyxyxyx"},
		{"\x30xyz\x01\x00\x00", "xyzzzzz"},
		{"\x50abcde\x05\x00\x00", "abcdeabcd"},
		{"\x10x\x01\x00\x10y\x06\x00\x1fz", "xxxxxyxxxxz"},
		{"\x10x\x01\x00\x00\x05\x00\x00", "xxxxxxxxx"},
		{"\x1ex\x01\x00\x00", strings.Repeat("x", 1+18)},
		{"\x1fx\x01\x00\xfe\x00", strings.Repeat("x", 1+15+254+4)},
		{"\x1fx\x01\x00\xff\x00\x00", strings.Repeat("x", 1+15+255+4)},
		{"\x1fx\x01\x00\xff\xff\x03\x00", strings.Repeat("x", 1+15+255+255+3+4)},
		{"\xe0" + strings.Repeat("z", 14), strings.Repeat("z", 14)},
		{"\xf0\x00" + strings.Repeat("z", 15), strings.Repeat("z", 15)},
		{"\xf0\xfe" + strings.Repeat("z", 269), strings.Repeat("z", 269)},
		{"\xf0\xff\x00" + strings.Repeat("z", 270), strings.Repeat("z", 270)},
		{"\xf0\xff\xff\x07" + strings.Repeat("z", 532), strings.Repeat("z", 532)},
		{"\xff\x00" + strings.Repeat("z", 15) + "\x01\x00\x01\x00", strings.Repeat("z", 15+15+1+4)},
	} {
		for _, most := range []int{len(c.plain), len(c.plain) + 1, api.MaxPlain} {
			checkUnpack(t, c.block, most, c.plain, api.OK)
		}
		if c.plain != "" {
			checkUnpack(t, c.block, len(c.plain)-1, "", api.ErrLong)
		}
	}
}

// Lz1: what is met first is told.
func TestLz1Errors(t *testing.T) {
	for _, c := range []struct {
		block string
		most  int
		errno api.Errno
	}{
		{"", 0, api.ErrShort},
		{"", 99, api.ErrShort},
		{"\x10", 99, api.ErrShort},
		{"\x30xy", 99, api.ErrShort},
		// ErrLong comes ahead of the plain bytes, behind their number.
		{"\x10", 0, api.ErrLong},
		{"\x10x", 0, api.ErrLong},
		{"\x30xy", 2, api.ErrLong},
		{"\x30xy", 3, api.ErrShort},
		{"\xf0", 0, api.ErrShort},
		{"\xf0\xff", 0, api.ErrShort},
		{"\xf0\xff\xff\xff", 0, api.ErrShort},
		{"\xf0\x00", 14, api.ErrLong},
		{"\xf0\x00", 15, api.ErrShort},
		{"\xf0\xff\x00", 269, api.ErrLong},
		{"\xf0\xff\x00", 270, api.ErrShort},
		// The distance has two bytes, and is looked at behind them, ahead of all that tells the number.
		{"\x00\x00", 99, api.ErrShort},
		{"\x00\x01", 99, api.ErrShort},
		{"\x00\x01\x00", 99, api.ErrLz},
		{"\x00\x00\x00", 99, api.ErrLz},
		{"\x10x\x00", 99, api.ErrShort},
		{"\x10x\x02", 99, api.ErrShort},
		{"\x10x\x00\x00", 99, api.ErrLz},
		{"\x10x\x02\x00", 99, api.ErrLz},
		{"\x10x\x00\x01", 99, api.ErrLz},
		{"\x10x\x01\x01", 99, api.ErrLz},
		{"\x10x\x00\x00\x00", 99, api.ErrLz},
		{"\x10x\x00\x00\x00", 1, api.ErrLz},
		{"\x1fx\x00\x00", 1, api.ErrLz},
		{"\x1fx\x02\x00", 1, api.ErrLz},
		{"\x1fx\xff\xff\xff", 99, api.ErrLz},
		{"\x10x\x01\x00\x00\x06\x00\x00", 99, api.ErrLz},
		{"\x10x\x01\x00\x00\x00\x00\x00", 99, api.ErrLz},
		// ErrLong comes behind the copy's number.
		{"\x1fx\x01\x00", 1, api.ErrShort},
		{"\x1fx\x01\x00\xff", 1, api.ErrShort},
		{"\x1fx\x01\x00\x00", 19, api.ErrLong},
		{"\x1fx\x01\x00\xff\x00", 274, api.ErrLong},
		{"\x10x\x01\x00", 1, api.ErrLong},
		{"\x10x\x01\x00", 4, api.ErrLong},
		// Behind a copy there is one sequence more.
		{"\x10x\x01\x00", 5, api.ErrShort},
		{"\x1fx\x01\x00\x00", 20, api.ErrShort},
		{"\x1fx\x01\x00\xff\x00", 275, api.ErrShort},
		// Not even a byte more.
		{"\x10x\x01\x00\x10y", 5, api.ErrLong},
		{"\x10x\x01\x00\x10", 5, api.ErrLong},
		{"\x10x\x01\x00\x00\x01\x00\x00", 8, api.ErrLong},
	} {
		checkUnpack(t, c.block, c.most, "", c.errno)
	}
}

// Lz1: most is 0 to MaxPlain, whatever the bytes are.
func TestLz1Most(t *testing.T) {
	for _, block := range []string{"", "\x00", "\x10x", "\x10x\x00\x00", "\x10"} {
		for _, most := range []int{-1, math.MinInt, api.MaxPlain + 1, math.MaxInt} {
			checkUnpack(t, block, most, "", api.ErrArg)
		}
	}
	checkUnpack(t, "\x00", 0, "", api.OK)
	checkUnpack(t, "\x10x", api.MaxPlain, "x", api.OK)
}

// Lz1: copies from as far back as two bytes tell.
func TestLz1Far(t *testing.T) {
	text := noise(65536, 256, 1)
	for _, n := range []int{255, 256, 257, 65534, 65535, 65536} {
		head := "\xf0" + more(n-15) + text[:n]
		for distance := max(1, n-2); distance <= min(n+2, 65535); distance++ {
			block := head + string([]byte{byte(distance), byte(distance >> 8)}) + "\x00"
			if distance > n {
				checkUnpack(t, block, api.MaxPlain, "", api.ErrLz)
				continue
			}
			plain := []byte(text[:n])
			for range 4 {
				plain = append(plain, plain[len(plain)-distance])
			}
			checkUnpack(t, block, api.MaxPlain, string(plain), api.OK)
		}
	}
}

// more is bytes that are added up to a number.
func more(n int) string {
	return strings.Repeat("\xff", n/255) + string([]byte{byte(n % 255)})
}

// Lz1: as many plain bytes as there may be, plain and copied, and one more.
func TestLz1MaxPlain(t *testing.T) {
	text := noise(api.MaxPlain+1, 256, 2)
	for _, n := range []int{api.MaxPlain - 1, api.MaxPlain} {
		checkUnpack(t, "\xf0"+more(n-15)+text[:n], api.MaxPlain, text[:n], api.OK)
		checkUnpack(t, "\x1fx\x01\x00"+more(n-20)+"\x00", api.MaxPlain, strings.Repeat("x", n), api.OK)
		checkUnpack(t, "\xf0"+more(n-15)+text[:n], n-1, "", api.ErrLong)
	}
	n := api.MaxPlain + 1
	checkUnpack(t, "\xf0"+more(n-15)+text[:n], api.MaxPlain, "", api.ErrLong)
	checkUnpack(t, "\x1fx\x01\x00"+more(n-20)+"\x00", api.MaxPlain, "", api.ErrLong)
}

// Lz1: all blocks of few bytes, out of those that begin and end numbers, are told as the chapter has it.
func TestLz1AllShortBlocks(t *testing.T) {
	bytes := "\x00\x01\x04\x0f\x10\x1f\x21\xf0\xff"
	var all func(block string, left int)
	all = func(block string, left int) {
		for _, most := range []int{0, 1, 5, 99} {
			plain, e := model(block, most)
			checkUnpack(t, block, most, plain, e)
		}
		for i := range bytes {
			if left > 0 {
				all(block+bytes[i:i+1], left-1)
			}
		}
	}
	all("", 5)
}

// model is Unpack as the chapter tells it, byte by byte.
func model(block string, most int) (plain string, e api.Errno) {
	defer func() {
		if met, ok := recover().(api.Errno); ok {
			plain, e = "", met
		}
	}()
	at := 0
	next := func() int {
		if at == len(block) {
			panic(api.ErrShort)
		}
		at++
		return int(block[at-1])
	}
	put := func(b byte) { plain += string([]byte{b}) }
	number := func(n int) int {
		if n != 15 {
			return n
		}
		b := next()
		for n += b; b == 255; n += b {
			b = next()
		}
		return n
	}
	room := func(n int) {
		if len(plain)+n > most {
			panic(api.ErrLong)
		}
	}
	for {
		head := next()
		n := number(head / 16)
		room(n)
		for range n {
			put(byte(next()))
		}
		if at == len(block) {
			return plain, api.OK
		}
		distance := next()
		distance += 256 * next()
		if distance == 0 || distance > len(plain) {
			panic(api.ErrLz)
		}
		n = number(head%16) + 4
		room(n)
		for range n {
			put(plain[len(plain)-distance])
		}
	}
}

// Lz1: each beginning of a block, and each block with a byte that is another one, is told as the chapter has it.
func TestLz1Broken(t *testing.T) {
	for name, text := range map[string]string{
		"words": sentence(400, 3), "again": strings.Repeat("abcde", 200), "noise": noise(300, 256, 4), "few": noise(200, 2, 5)} {
		block := packed(t, name, text)
		for n := range len(block) {
			plain, e := model(block[:n], 2000)
			checkUnpack(t, block[:n], 2000, plain, e)
			for _, x := range []byte{0, 1, 0x0f, 0x10, 0xf0, 0xff, block[n] ^ 1, block[n] + 1} {
				other := block[:n] + string([]byte{x}) + block[n+1:]
				plain, e := model(other, 2000)
				checkUnpack(t, other, 2000, plain, e)
			}
		}
	}
}

// Lz3: it ends, at whatever bytes.
func TestLz3WhateverBytes(t *testing.T) {
	source := rand.New(rand.NewSource(6))
	for i := range 20000 {
		block := noise(source.Intn(60), 256, int64(i))
		if i%2 == 0 {
			block = noise(source.Intn(60), 40, int64(i))
		}
		most := source.Intn(500)
		plain, e := model(block, most)
		checkUnpack(t, block, most, plain, e)
	}
}

// Lz3: it ends soon, also where few bytes ask for many.
func TestLz3LongBlocks(t *testing.T) {
	full := strings.Repeat("\xff", 1<<24)
	checkUnpack(t, full, api.MaxPlain, "", api.ErrShort)
	checkUnpack(t, full+"\x00", api.MaxPlain, "", api.ErrLong)
	checkUnpack(t, "\x1fx\x01\x00"+full, api.MaxPlain, "", api.ErrShort)
	checkUnpack(t, "\x1fx\x01\x00"+full+"\x00", api.MaxPlain, "", api.ErrLong)
	checkUnpack(t, "\x10x"+strings.Repeat("\x01\x00\x00", 1<<22), api.MaxPlain, "", api.ErrLong)
	checkUnpack(t, strings.Repeat("\x00", 1<<24), api.MaxPlain, "", api.ErrLz)
	checkUnpack(t, strings.Repeat("\x10\x01\x01\x00", 1<<20), api.MaxPlain, "", api.ErrLong)
}

// R2: beside an error there is nothing, however much was told ahead of it.
func TestR2NothingBesideAnError(t *testing.T) {
	for _, behind := range []string{"\x10x\x01\x00", "\x10x\x00\x00\x00", "\xff"} {
		block := "\xf0" + more(1000-15) + noise(1000, 256, 7) + "\x01\x00" + behind
		if plain, e := lz.Unpack(block, 1010); plain != "" || e == api.OK {
			t.Errorf("%d bytes, %v", len(plain), e)
		}
	}
}

func ExampleUnpack() {
	fmt.Println(lz.Unpack("\x1fx\x01\x00\x00\x00", 99))
	// Output: xxxxxxxxxxxxxxxxxxxx 0
}

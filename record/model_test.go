package record_test

import (
	"encoding/binary"
	"math"
	"math/rand"
	"slices"
	"strings"
	"testing"

	"postroad/api"
	"postroad/record"
)

func putVar(n int) string { return string(binary.AppendUvarint(nil, uint64(n))) }

// holds is the chapter's words on a base and records by it.
func holds(l []api.Record, base int) bool {
	if base < 0 || base >= 1<<40 {
		return false
	}
	for i, r := range l {
		switch {
		case r.Offset < 0, r.Offset >= 1<<40, len(r.Key) > 64, len(r.Value) > 4096, r.Gone && r.Value != "":
			return false
		case i == 0 && r.Offset < base, i > 0 && r.Offset <= l[i-1].Offset:
			return false
		}
	}
	return true
}

// written are the bytes of records of which the chapter's words hold.
func written(l []api.Record, base int) string {
	var out []byte
	for _, r := range l {
		out = binary.AppendUvarint(out, uint64(r.Offset-base))
		out = binary.AppendUvarint(out, uint64(len(r.Key)))
		out = append(out, r.Key...)
		size := len(r.Value) + 1
		if r.Gone {
			size = 0
		}
		out = binary.AppendUvarint(out, uint64(size))
		out = append(out, r.Value...)
	}
	return string(out)
}

// cut takes a number off bytes, in whatever form, and tells one that is far too great where there is none.
func cut(s string) (int, string) {
	x, n := binary.Uvarint([]byte(s))
	if n <= 0 || x >= 1<<62 {
		return 1 << 62, ""
	}
	return int(x), s[n:]
}

func first(s string, n int) (string, string) { return s[:min(n, len(s))], s[min(n, len(s)):] }

// guess reads bytes without any care. If they are the bytes of n records, those are these.
func guess(s string, base, n int) []api.Record {
	var l []api.Record
	for range min(n, len(s)+1) {
		var r api.Record
		var x int
		x, s = cut(s)
		r.Offset = base + x
		x, s = cut(s)
		r.Key, s = first(s, x)
		x, s = cut(s)
		if x == 0 {
			r.Gone = true
		} else {
			r.Value, s = first(s, x-1)
		}
		l = append(l, r)
	}
	return l
}

// checkAgainstModel holds Of to the chapter's words: what was guessed is right if it is written as those very bytes.
func checkAgainstModel(t *testing.T, s string, base, n int) bool {
	t.Helper()
	l := guess(s, base, n)
	if len(l) != n || !holds(l, base) || written(l, base) != s {
		checkNot(t, s, base, n)
		return false
	}
	checkBoth(t, l, base, s)
	return true
}

// Re1: every short text out of some bytes.
func TestRe1Every(t *testing.T) {
	const letters = "\x00\x01\x02\x03\x80\x81"
	right := 0
	var each func(s string)
	each = func(s string) {
		for n := range 4 {
			for _, base := range []int{0, last - 1, last} {
				if checkAgainstModel(t, s, base, n) {
					right++
				}
			}
		}
		if len(s) < 6 {
			for i := range len(letters) {
				each(s + letters[i:i+1])
			}
		}
	}
	each("")
	if right < 100 {
		t.Error("only so many were right:", right)
	}
}

func someText(r *rand.Rand, most int) string {
	n := []int{0, 1, 2, r.Intn(most + 1), most}[r.Intn(5)]
	out := make([]byte, n)
	r.Read(out)
	return string(out)
}

// someRecords are records of which the chapter's words hold by the base beside them.
func someRecords(r *rand.Rand) ([]api.Record, int) {
	base := []int{0, 1, r.Intn(1 << 20), r.Intn(1 << 40), last - 300, last}[r.Intn(6)]
	far := []int{1, 2, 200, 1 << 20, 1 << 38}[r.Intn(5)]
	var l []api.Record
	offset := base + r.Intn(far)
	for range r.Intn(9) {
		if offset > last {
			break
		}
		one := api.Record{Offset: offset, Key: someText(r, 64), Gone: r.Intn(3) == 0}
		if !one.Gone {
			one.Value = someText(r, []int{9, 200, 4096}[r.Intn(3)])
		}
		l = append(l, one)
		offset += 1 + r.Intn(far)
	}
	return l, base
}

// Re2: records come back as they were.
func TestRe2Back(t *testing.T) {
	r := rand.New(rand.NewSource(9))
	for range 3000 {
		l, base := someRecords(r)
		s, e := record.Bytes(l, base)
		if e != api.OK {
			t.Fatal(e)
		}
		checkBoth(t, l, base, written(l, base))
		checkOf(t, s, base, len(l), l, api.OK)
		checkNot(t, s, base, len(l)+1)
		if len(l) > 0 {
			checkNot(t, s, base, len(l)-1)
		}
	}
	for i, one := range mayBe() {
		for _, base := range []int{0, one.Offset / 2, one.Offset} {
			checkBoth(t, []api.Record{one}, base, written([]api.Record{one}, base))
			if t.Failed() {
				t.Fatal("record", i)
			}
		}
	}
}

// Re2: and bytes, too: no two texts are those of the same records.
func TestRe2Bytes(t *testing.T) {
	r := rand.New(rand.NewSource(10))
	for range 20000 {
		l, base := someRecords(r)
		s := written(l, base)
		for range r.Intn(3) {
			s = spoilt(r, s)
		}
		checkAgainstModel(t, s, base, len(l))
		checkAgainstModel(t, s, base, max(0, len(l)+r.Intn(3)-1))
	}
}

// spoilt is a text with one thing in it changed.
func spoilt(r *rand.Rand, s string) string {
	at := r.Intn(len(s) + 1)
	near := min(at, r.Intn(8)) // the first bytes are numbers more often
	switch r.Intn(5) {
	case 0:
		return s[:at]
	case 1:
		return s[:near] + string([]byte{byte(r.Intn(256))}) + s[near:]
	case 2:
		return s[:near] + s[min(len(s), near+1):]
	case 3:
		return s[:near] + string([]byte{byte(r.Intn(256))}) + s[min(len(s), near+1):]
	}
	return s + s[near:at]
}

// Re1: lists that are right and such as are not, in whatever order.
func TestRe1BytesAgainstModel(t *testing.T) {
	r := rand.New(rand.NewSource(11))
	bad := mayNotBe()
	for range 10000 {
		l, base := someRecords(r)
		for i := range l {
			switch r.Intn(12) {
			case 0:
				j := r.Intn(len(l))
				l[i], l[j] = l[j], l[i]
			case 1:
				l[i].Offset += r.Intn(3) - 1
			case 2:
				l[i] = bad[r.Intn(len(bad))]
			case 3:
				l[i].Offset = l[0].Offset
			}
		}
		if r.Intn(9) == 0 {
			base += r.Intn(3) - 1
		}
		if holds(l, base) {
			checkBoth(t, l, base, written(l, base))
		} else {
			checkBytes(t, l, base, "", api.ErrRecord)
		}
	}
}

// R1: each call ends at all arguments.
func TestR1Ends(t *testing.T) {
	numbers := append(badBases(), 0, 1, 2, last, math.MaxInt-1, math.MinInt+1)
	texts := []string{"", "\x00", "\x00\x00\x01", strings.Repeat("\x00", 999), strings.Repeat("\x80", 999), strings.Repeat("\xff", 9) + "\x7f", longValue}
	for _, base := range numbers {
		for _, n := range numbers {
			for _, s := range texts {
				record.Of(s, base, n)
			}
			for _, one := range slices.Concat(mayBe(), mayNotBe()) {
				one.Offset = n
				record.Check(one)
				record.Bytes([]api.Record{one, one}, base)
			}
		}
		record.Bytes(nil, base)
	}
}

// R1: so many records as are asked for take no room, and no time, ahead of being read.
func TestR1HugeNumber(t *testing.T) {
	took := testing.AllocsPerRun(10, func() {
		checkNot(t, "\x00\x00\x01\x01\x00\x01", 0, math.MaxInt)
		checkNot(t, "", 0, math.MaxInt)
	})
	if took > 20 {
		t.Error(took)
	}
}

func FuzzOf(f *testing.F) {
	f.Add("\x02\x01\x6b\x02\x76", 5, 1)
	f.Add("\x02\x01\x6b\x00", 5, 1)
	f.Add("\xff\xff\xff\xff\xff\xff\xff\xff\x7f\x00\x01", last, 1)
	f.Fuzz(func(t *testing.T, s string, base, n int) {
		if n < 0 || base < 0 || base > last {
			checkNot(t, s, base, n)
			return
		}
		checkAgainstModel(t, s, base, n)
	})
}

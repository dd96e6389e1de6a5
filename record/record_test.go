package record_test

import (
	"math"
	"slices"
	"strings"
	"testing"

	"postroad/api"
	"postroad/record"
)

const last = api.MaxOffset - 1

// show is the beginning of bytes, as many as a line of a failure takes.
func show(s string) string {
	if len(s) > 60 {
		return s[:60] + ".."
	}
	return s
}

func checkBytes(t *testing.T, l []api.Record, base int, s string, errno api.Errno) {
	t.Helper()
	got, e := record.Bytes(l, base)
	if got != s || e != errno {
		t.Errorf("Bytes of %d records, %d: %d bytes %q, %d, want %d bytes %q, %d", len(l), base, len(got), show(got), e, len(s), show(s), errno)
	}
}

func checkOf(t *testing.T, s string, base, n int, l []api.Record, errno api.Errno) {
	t.Helper()
	got, e := record.Of(s, base, n)
	if !slices.Equal(got, l) || e != errno {
		t.Errorf("Of(%q, %d, %d): %d records, %d, want %d, %d", show(s), base, n, len(got), e, len(l), errno)
	}
}

// checkBoth holds records and bytes to be each other's.
func checkBoth(t *testing.T, l []api.Record, base int, s string) {
	t.Helper()
	checkBytes(t, l, base, s, api.OK)
	checkOf(t, s, base, len(l), l, api.OK)
}

func checkNot(t *testing.T, s string, base, n int) {
	t.Helper()
	checkOf(t, s, base, n, nil, api.ErrRecord)
}

var (
	longKey   = strings.Repeat("k", 64)
	longValue = strings.Repeat("v", 4096)
)

// mayBe are records that may be, at each edge.
func mayBe() []api.Record {
	return []api.Record{
		{},
		{Gone: true},
		{Offset: 7, Key: "k", Value: "v"},
		{Offset: 7, Key: "k", Gone: true},
		{Offset: last},
		{Offset: last, Gone: true},
		{Key: longKey},
		{Key: longKey, Gone: true},
		{Value: longValue},
		{Offset: last, Key: longKey, Value: longValue},
		{Offset: 1, Key: "\x00\xff\n", Value: "\x80\x00 \t"},
	}
}

// mayNotBe are records that may not be, each by one thing.
func mayNotBe() []api.Record {
	return []api.Record{
		{Offset: -1},
		{Offset: math.MinInt},
		{Offset: api.MaxOffset},
		{Offset: math.MaxInt},
		{Offset: -1, Key: "k", Gone: true},
		{Offset: api.MaxOffset, Key: "k", Gone: true},
		{Key: longKey + "k"},
		{Key: longKey + "k", Gone: true},
		{Key: strings.Repeat(longKey, 99)},
		{Value: longValue + "v"},
		{Value: strings.Repeat(longValue, 99)},
		{Gone: true, Value: "v"},
		{Gone: true, Value: longValue},
		{Gone: true, Key: "k", Value: "\x00"},
		{Gone: true, Value: longValue + "v"},
	}
}

func TestRe1Check(t *testing.T) {
	for i, r := range mayBe() {
		if e := record.Check(r); e != api.OK {
			t.Errorf("record %d that may be: %d", i, e)
		}
	}
	for i, r := range mayNotBe() {
		if e := record.Check(r); e != api.ErrRecord {
			t.Errorf("record %d that may not be: %d", i, e)
		}
	}
}

// Re1: the chapter's examples, and bytes written out.
func TestRe1Forms(t *testing.T) {
	checkBoth(t, []api.Record{{Offset: 7, Key: "k", Value: "v"}}, 5, "\x02\x01\x6b\x02\x76")
	checkBoth(t, []api.Record{{Offset: 7, Key: "k", Gone: true}}, 5, "\x02\x01\x6b\x00")
	checkBoth(t, nil, 0, "")
	checkBoth(t, nil, last, "")
	checkBoth(t, []api.Record{{}}, 0, "\x00\x00\x01")
	checkBoth(t, []api.Record{{Gone: true}}, 0, "\x00\x00\x00")
	checkBoth(t, []api.Record{{Offset: 5}}, 5, "\x00\x00\x01")
	checkBoth(t, []api.Record{{Offset: 5 + 127}}, 5, "\x7f\x00\x01")
	checkBoth(t, []api.Record{{Offset: 5 + 128}}, 5, "\x80\x01\x00\x01")
	checkBoth(t, []api.Record{{Offset: 305, Key: "ab", Value: "cde"}}, 5, "\xac\x02\x02ab\x04cde")
	checkBoth(t, []api.Record{{Offset: 1, Key: "\x00\xff", Value: "\x80\x01"}}, 0, "\x01\x02\x00\xff\x03\x80\x01")
	// Each offset is told by the base, not by the one ahead of it.
	checkBoth(t, []api.Record{{Offset: 6, Key: "a", Value: "b"}, {Offset: 7, Key: "a", Gone: true}, {Offset: 19, Value: "c"}}, 5,
		"\x01\x01a\x02b"+"\x02\x01a\x00"+"\x0e\x00\x02c")
}

// Re1: what may be at most.
func TestRe1Edges(t *testing.T) {
	checkBoth(t, []api.Record{{Offset: last}}, 0, "\xff\xff\xff\xff\xff\x1f\x00\x01")
	checkBoth(t, []api.Record{{Offset: last}}, last, "\x00\x00\x01")
	checkBoth(t, []api.Record{{Offset: last - 1}, {Offset: last, Gone: true}}, last-1, "\x00\x00\x01\x01\x00\x00")
	checkBoth(t, []api.Record{{Key: longKey, Value: "v"}}, 0, "\x00\x40"+longKey+"\x02v")
	checkBoth(t, []api.Record{{Key: longKey, Gone: true}}, 0, "\x00\x40"+longKey+"\x00")
	checkBoth(t, []api.Record{{Value: longValue[:126]}}, 0, "\x00\x00\x7f"+longValue[:126])
	checkBoth(t, []api.Record{{Value: longValue[:127]}}, 0, "\x00\x00\x80\x01"+longValue[:127])
	checkBoth(t, []api.Record{{Value: longValue[1:]}}, 0, "\x00\x00\x80\x20"+longValue[1:])
	checkBoth(t, []api.Record{{Value: longValue}}, 0, "\x00\x00\x81\x20"+longValue)
	checkBoth(t, []api.Record{{Key: longKey, Value: longValue}, {Offset: 1, Key: longKey, Value: longValue}}, 0,
		"\x00\x40"+longKey+"\x81\x20"+longValue+"\x01\x40"+longKey+"\x81\x20"+longValue)
}

// Re1: the chapter names no greatest number of records; a batch's is not theirs.
func TestRe1Many(t *testing.T) {
	var l []api.Record
	var s strings.Builder
	for i := range 1000 {
		l = append(l, api.Record{Offset: 3 + 100*i, Gone: true})
		s.WriteString(putVar(100 * i))
		s.WriteString("\x00\x00")
	}
	checkBoth(t, l, 3, s.String())
	checkNot(t, s.String(), 3, 999)
	checkNot(t, s.String(), 3, 1001)
}

func badBases() []int { return []int{-1, math.MinInt, api.MaxOffset, math.MaxInt} }

func TestRe1BadBase(t *testing.T) {
	for _, base := range badBases() {
		checkBytes(t, nil, base, "", api.ErrRecord)
		checkBytes(t, []api.Record{}, base, "", api.ErrRecord)
		for _, offset := range []int{0, base, base + 1, last} {
			checkBytes(t, []api.Record{{Offset: offset}}, base, "", api.ErrRecord)
		}
		checkNot(t, "", base, 0)
		checkNot(t, "\x00\x00\x01", base, 1)
		checkNot(t, "\x01\x00\x01", base, 1)
	}
}

// Re1: one that may not be, wherever it stands.
func TestRe1BytesBadRecord(t *testing.T) {
	for _, r := range mayNotBe() {
		checkBytes(t, []api.Record{r}, 0, "", api.ErrRecord)
		checkBytes(t, []api.Record{r, {Offset: last}}, 0, "", api.ErrRecord)
		checkBytes(t, []api.Record{{Offset: 0, Value: "v"}, r}, 0, "", api.ErrRecord)
		r.Offset = 5
		if record.Check(r) == api.OK { // its offset was the thing
			continue
		}
		checkBytes(t, []api.Record{r}, 5, "", api.ErrRecord)
		checkBytes(t, []api.Record{{Offset: 4}, r, {Offset: 6}}, 4, "", api.ErrRecord)
		checkBytes(t, []api.Record{{Offset: 3}, {Offset: 4}, r}, 3, "", api.ErrRecord)
	}
}

func TestRe1BytesOrder(t *testing.T) {
	for _, offsets := range [][]int{
		{4}, {0}, {4, 6}, {4, 5}, {5, 5}, {6, 5}, {9, 9}, {5, 6, 6}, {5, 7, 6}, {5, 6, 5}, {6, 6, 7}, {7, 6, 8}, {5, 6, 7, 4}, {last, 5}, {last, last},
	} {
		var l []api.Record
		for _, offset := range offsets {
			l = append(l, api.Record{Offset: offset, Key: "k"})
		}
		checkBytes(t, l, 5, "", api.ErrRecord)
	}
	checkBytes(t, []api.Record{{Offset: last - 1}}, last, "", api.ErrRecord)
	checkBytes(t, []api.Record{{Offset: 0}}, 1, "", api.ErrRecord)
}

// Re1: just the bytes of n records: no fewer, no more, and none left.
func TestRe1OfJust(t *testing.T) {
	l := []api.Record{{Offset: 7, Key: "k", Value: "v"}, {Offset: 8, Key: "long", Gone: true}, {Offset: 300, Value: "word"}}
	s := "\x02\x01k\x02v" + "\x03\x04long\x00" + "\xa7\x02\x00\x05word"
	checkBoth(t, l, 5, s)
	for n := range len(s) {
		for many := range 5 {
			switch {
			case n == 0 && many == 0, n == 5 && many == 1, n == 12 && many == 2:
				checkOf(t, s[:n], 5, many, l[:many], api.OK)
			default:
				checkNot(t, s[:n], 5, many)
			}
		}
	}
	for _, n := range []int{0, 1, 2, 4, 5, math.MaxInt, -1, -3, math.MinInt} {
		checkNot(t, s, 5, n)
	}
	for b := range 256 {
		checkNot(t, s+string([]byte{byte(b)}), 5, 3)
		checkNot(t, s+string([]byte{byte(b)}), 5, 4)
	}
	for _, n := range []int{1, 2, math.MaxInt, -1, math.MinInt} {
		checkNot(t, "", 0, n)
	}
	checkNot(t, "\x00", 0, 0)
}

// Re1: bytes that are no record's, though they are of its form.
func TestRe1OfBadRecord(t *testing.T) {
	for _, c := range []struct {
		s    string
		base int
	}{
		{"\x80\x80\x80\x80\x80\x20\x00\x01", 0},             // the offset 2^40
		{"\xff\xff\xff\xff\xff\x1f\x00\x01", 1},             // 2^40 - 1 behind 1
		{"\x01\x00\x01", last},                              // 1 behind the last one
		{"\xff\xff\xff\xff\xff\xff\xff\xff\x7f\x00\x01", 0}, // 2^63 - 1
		{"\xff\xff\xff\xff\xff\xff\xff\xff\x7f\x00\x01", 1}, // and such as wrap round
		{"\xff\xff\xff\xff\xff\xff\xff\xff\x7f\x00\x01", last},
		{"\x00\x41" + longKey + "k\x01", 0},
		{"\x00\x41" + longKey + "k\x00", 0},
		{"\x00\x80\x01" + longKey + longKey + "\x01", 0},
		{"\x00\x00\x82\x20" + longValue + "v", 0},
		{"\x00\x00\x81\x40" + longValue + longValue, 0},
		{"\x00\x02k\x01", 0}, // the key takes the value's number away
		{"\x00\x00\x02", 0},
		{"\x00\x00\x01v", 0},
		{"\x00\x00\x00v", 0},
		{"\x00\xff\xff\xff\xff\xff\xff\xff\xff\x7fk\x01", 0}, // lengths of 2^63 - 1
		{"\x00\x00\xff\xff\xff\xff\xff\xff\xff\xff\x7fv", 0},
	} {
		checkNot(t, c.s, c.base, 1)
		checkNot(t, c.s, c.base, 2)
	}
}

// Re1: a number in a form that PutVar does not give, in each place of a record.
func TestRe1OfBadNumber(t *testing.T) {
	for _, x := range []struct{ good, bad string }{
		{"\x00", "\x80\x00"},
		{"\x00", "\x80\x80\x00"},
		{"\x01", "\x81\x00"},
		{"\x01", "\x81\x80\x80\x00"},
		{"\x02", "\x82\x80\x80\x80\x80\x80\x80\x80\x00"},
		{"\x02", "\x82\x80\x80\x80\x80\x80\x80\x80\x80\x00"},
		{"\x02", "\x82\x80\x80\x80\x80\x80\x80\x80\x80\x01"},
	} {
		key := "kk"[:x.good[0]]
		for _, n := range []int{0, 1} {
			ahead := []string{"", "\x00\x00\x01"}[n]
			if _, e := record.Of(ahead+"\x02"+x.good+key+"\x00", 0, n+1); e != api.OK {
				t.Error("key", e)
			}
			checkNot(t, ahead+"\x02"+x.bad+key+"\x00", 0, n+1)
			checkNot(t, ahead+"\x02\x00"+x.bad, 0, n+1)
			checkNot(t, ahead+"\x02\x00"+x.bad+"v", 0, n+1)
			checkNot(t, ahead+x.bad+"\x00\x01", 0, n+1)
		}
	}
	for n := range 12 { // numbers without an end
		checkNot(t, strings.Repeat("\x80", n), 0, 1)
		checkNot(t, "\x00"+strings.Repeat("\xff", n), 0, 1)
		checkNot(t, "\x00\x00"+strings.Repeat("\xff", n), 0, 1)
	}
}

func TestRe1OfOrder(t *testing.T) {
	gone := func(offsets ...byte) string {
		var out []byte
		for _, offset := range offsets {
			out = append(out, offset, 0, 0)
		}
		return string(out)
	}
	for _, offsets := range [][]byte{{0, 0}, {1, 0}, {1, 1}, {9, 8}, {0, 1, 1}, {0, 2, 1}, {0, 1, 0}, {1, 1, 2}, {2, 1, 3}} {
		for _, base := range []int{0, 5, last - 9} {
			checkNot(t, gone(offsets...), base, len(offsets))
		}
	}
	checkBoth(t, []api.Record{{Offset: 5, Gone: true}, {Offset: 6, Gone: true}, {Offset: 14, Gone: true}}, 5, gone(0, 1, 9))
	checkNot(t, "\x00\x00\x01\xff\xff\xff\xff\xff\xff\xff\xff\x7f\x00\x01", 9, 2)
}

package wire_test

import (
	"math"
	"math/rand"
	"runtime"
	"slices"
	"strings"
	"testing"
	"unsafe"

	"postroad/api"
	"postroad/wire"
)

// R1: each call ends at all arguments.
func TestR1Ends(t *testing.T) {
	wild := []int{math.MinInt, math.MinInt + 1, -1, 0, 1, 255, 256, maxOffset, maxOffset + 1, math.MaxInt - 1, math.MaxInt}
	for _, n := range wild {
		for _, offset := range wild {
			var m api.Message
			for _, one := range numbers(&m) {
				*one.p = n
			}
			for _, kind := range []int{n, 1, 10} {
				m.Kind = kind
				m.Body = []api.Record{{Offset: offset}, {Offset: n, Gone: true, Value: "v"}}
				wire.Check(m)
				wire.Bytes(m)
			}
		}
	}
	many := api.Message{Kind: 1, Body: make([]api.Record, 1<<20)}
	checkNo(t, many)
	many = api.Message{Kind: 1, Log: make([]string, 1<<20)}
	checkNo(t, many)
	checkNo(t, api.Message{Kind: 1, Log: []string{strings.Repeat("x", 1<<26)}})
}

// R1, Wi2: an answer out of whatever bytes.
func TestR1Whatever(t *testing.T) {
	r := rand.New(rand.NewSource(17))
	for range 5000 {
		s := someText(r, 300)
		checkAgainstModel(t, s)
		checkAgainstModel(t, fullBytes[:r.Intn(len(fullBytes))]+s)
		checkAgainstModel(t, "\x05"+strings.Repeat("\x00", 10)+s)
	}
	head := "\x01" + strings.Repeat("\x00", 10)
	for b := range 256 {
		filling := string([]byte{byte(b)})
		for _, n := range []int{1, 12, 13, 14, 99, 9999} {
			checkAgainstModel(t, strings.Repeat(filling, n))
			checkAgainstModel(t, head+strings.Repeat(filling, n))
		}
	}
	for _, filling := range []string{"\x00", "\x01", "\x7f", "\x80", "\xff"} {
		for _, n := range []int{maxWire - len(head), maxWire, maxWire + 1} {
			checkAgainstModel(t, strings.Repeat(filling, n))
			checkAgainstModel(t, head+strings.Repeat(filling, n))
		}
	}
}

// taken is how many bytes of memory a call takes.
func taken(call func()) uint64 {
	var before, behind runtime.MemStats
	runtime.ReadMemStats(&before)
	call()
	runtime.ReadMemStats(&behind)
	return behind.TotalAlloc - before.TotalAlloc
}

// R1: what is told of how many there are takes no room, and no time, ahead of being read; and texts that may be a gigabyte are not put together.
func TestR1Room(t *testing.T) {
	head := "\x01" + strings.Repeat("\x00", 10)
	for _, n := range []int{4096, 4097, 1 << 20, math.MaxInt} {
		for _, s := range []string{head + putVar(n), head + "\x00" + putVar(n), head + "\x01" + putVar(n), head + "\x00\x01\x00" + putVar(n)} {
			if got := taken(func() { checkNot(t, s) }); got > 1<<17 {
				t.Errorf("%q takes %d bytes", s, got)
			}
		}
	}
	for _, ahead := range []string{head + putVar(1<<20-99), head + "\x00" + putVar((1<<20-99)/3)} {
		s := ahead + strings.Repeat("\x00", maxWire-len(ahead))
		if got := taken(func() { checkNot(t, s) }); got > 1<<17 {
			t.Errorf("%d bytes %q take %d bytes", len(s), show(s), got)
		}
	}
	m := api.Message{Kind: 1, Log: slices.Repeat([]string{longText}, 4096)}
	if got := taken(func() { checkTooLong(t, m) }); got > 1<<25 {
		t.Error("so many bytes are taken:", got)
	}
}

// R2: beside an error there is nothing, also where it comes at the end.
func TestR2NothingBesideAnError(t *testing.T) {
	for _, s := range []string{fullBytes[:len(fullBytes)-1], fullBytes + "\x00", "\x0b" + fullBytes[1:], fullBytes + strings.Repeat("\x00", maxWire)} {
		m, e := wire.Of(s)
		if e == api.OK || !alike(m, api.Message{}) {
			t.Error(bare(m), len(m.Log), len(m.Body), e)
		}
	}
}

// R2: a refused call leaves nothing behind that the next one could tell.
func TestR2NothingChanged(t *testing.T) {
	bad := full()
	bad.Body = append(bad.Body, api.Record{})
	long := full()
	long.Log = slices.Repeat([]string{longText}, 9)
	for range 2 {
		checkNot(t, fullBytes[:9])
		checkNo(t, bad)
		checkTooLong(t, long)
		checkOf(t, strings.Repeat(fullBytes, maxWire), api.Message{}, api.ErrLong)
		checkBoth(t, full(), fullBytes)
	}
}

// lies tells whether bytes lie in the memory of others.
func lies(part, whole string) bool {
	at := uintptr(unsafe.Pointer(unsafe.StringData(part)))
	from := uintptr(unsafe.Pointer(unsafe.StringData(whole)))
	return part != "" && at >= from && at < from+uintptr(len(whole))
}

// R3: what lies behind a list's end is not read, and nothing of a list is changed.
func TestR3Room(t *testing.T) {
	log := append(full().Log, longText+"t", "more")
	body := append(full().Body, api.Record{Offset: -1, Gone: true, Value: "x"}, api.Record{Offset: 4})
	wasLog, wasBody := slices.Clone(log), slices.Clone(body)
	m := full()
	m.Log, m.Body = log[:3], body[:3]
	checkBoth(t, m, fullBytes)
	m.Log = log[:4]
	checkNo(t, m)
	m.Log, m.Body = log[:3], body[:4]
	checkNo(t, m)
	if !slices.Equal(log, wasLog) || !slices.Equal(body, wasBody) {
		t.Error("a list has changed")
	}
}

// texts are all texts of a message.
func texts(m api.Message) []string {
	all := slices.Clone(m.Log)
	for _, r := range m.Body {
		all = append(all, r.Key, r.Value)
	}
	return all
}

// R3: an answer is new memory, whatever it was made of.
func TestR3NewMemory(t *testing.T) {
	m := full()
	m.Log = []string{strings.Repeat("a", 99), strings.Repeat("b", 99), "c", "d", "e"}
	m.Body[0].Key, m.Body[0].Value = strings.Repeat("k", 60), strings.Repeat("v", 99)
	s, _ := wire.Bytes(m)
	again, _ := wire.Bytes(m)
	if lies(s, again) || lies(again, s) {
		t.Error("two answers of Bytes share their memory")
	}
	for _, text := range texts(m) {
		if lies(text, s) || lies(s, text) {
			t.Error("Bytes answers memory of its argument")
		}
	}
	one, _ := wire.Of(s)
	two, _ := wire.Of(s)
	for i, text := range texts(one) {
		if lies(text, s) || len(text) > 1 && lies(text, texts(two)[i]) {
			t.Error("Of answers memory of another:", text)
		}
	}
	for _, text := range one.Log[:cap(one.Log)][len(one.Log):] {
		if text != "" {
			t.Error("in the spare room:", text)
		}
	}
	for _, r := range one.Body[:cap(one.Body)][len(one.Body):] {
		if r != (api.Record{}) {
			t.Error("in the spare room:", r)
		}
	}
	one.Log[0], one.Body[0].Key = "other", "other"
	_ = append(one.Log, "more")
	_ = append(one.Body, api.Record{Key: "more"})
	if !alike(two, m) {
		t.Error("two answers share their memory")
	}
}

// R3: nil and the empty list are the same.
func TestR3Empty(t *testing.T) {
	for _, log := range [][]string{nil, {}, make([]string, 0, 9)} {
		for _, body := range [][]api.Record{nil, {}, make([]api.Record, 0, 9)} {
			checkBoth(t, api.Message{Kind: 5, Log: log, Body: body}, "\x05"+strings.Repeat("\x00", 12))
			checkNo(t, api.Message{Kind: 11, Log: log, Body: body})
		}
	}
}

// R4: the same arguments, the same answer, whatever room stands behind them and whatever was called ahead.
func TestR4Same(t *testing.T) {
	for range 2 {
		for _, more := range []int{0, 1, 99} {
			m := full()
			m.Log, m.Body = slices.Grow(m.Log, more), slices.Grow(m.Body, more)
			checkBoth(t, m, fullBytes)
			checkNot(t, fullBytes[1:])
		}
	}
}

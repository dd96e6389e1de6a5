package wire_test

import (
	"math"
	"reflect"
	"slices"
	"strings"
	"testing"

	"postroad/api"
	"postroad/wire"
)

const (
	maxOffset = 1 << 40
	maxText   = 1<<18 + 10
	maxWire   = 1 << 20
)

var (
	longKey   = strings.Repeat("k", 64)
	longValue = strings.Repeat("v", 4096)
	longText  = strings.Repeat("t", maxText)
)

// alike tells whether two messages are the same; nil and the empty list are.
func alike(a, b api.Message) bool {
	if !slices.Equal(a.Log, b.Log) || !slices.Equal(a.Body, b.Body) {
		return false
	}
	a.Log, a.Body, b.Log, b.Body = nil, nil, nil, nil
	return reflect.DeepEqual(a, b)
}

// show is the beginning of bytes, as many as a line of a failure takes.
func show(s string) string {
	if len(s) > 60 {
		return s[:60] + ".."
	}
	return s
}

// bare is a message without its lists, of which a failure tells only how long they are.
func bare(m api.Message) api.Message {
	m.Log, m.Body = nil, nil
	return m
}

func checkBytes(t *testing.T, m api.Message, s string, errno api.Errno) {
	t.Helper()
	if got, e := wire.Bytes(m); got != s || e != errno {
		t.Errorf("Bytes(%+v, %d texts, %d records): %d bytes %q, %d, want %d bytes %q, %d",
			bare(m), len(m.Log), len(m.Body), len(got), show(got), e, len(s), show(s), errno)
	}
}

func checkOf(t *testing.T, s string, m api.Message, errno api.Errno) {
	t.Helper()
	if got, e := wire.Of(s); !alike(got, m) || e != errno {
		t.Errorf("Of(%d bytes %q): %+v, %d texts, %d records, %d, want %+v, %d texts, %d records, %d",
			len(s), show(s), bare(got), len(got.Log), len(got.Body), e, bare(m), len(m.Log), len(m.Body), errno)
	}
}

// checkBoth holds a message and bytes to be each other's.
func checkBoth(t *testing.T, m api.Message, s string) {
	t.Helper()
	if e := wire.Check(m); e != api.OK {
		t.Errorf("Check(%+v): %d", bare(m), e)
	}
	checkBytes(t, m, s, api.OK)
	checkOf(t, s, m, api.OK)
}

// checkNo holds a message to be one that may not be, and the bytes that it would have to be no message's.
func checkNo(t *testing.T, m api.Message) {
	t.Helper()
	if e := wire.Check(m); e != api.ErrWire {
		t.Errorf("Check(%+v, %d texts, %d records): %d", bare(m), len(m.Log), len(m.Body), e)
	}
	checkBytes(t, m, "", api.ErrWire)
}

func checkNot(t *testing.T, s string) {
	t.Helper()
	checkOf(t, s, api.Message{}, api.ErrWire)
}

// full is a message in which no field is nought, and no two numbers are the same.
func full() api.Message {
	return api.Message{
		Kind: 7, From: 1, To: 102, View: 300, Normal: 8, End: 9, Commit: 3, Err: api.ErrQueue,
		Id: api.Id{Producer: 4, Seq: 5}, Base: 6, Log: []string{"", "xy", "\x00\xff"},
		Body: []api.Record{{Key: "k", Value: "v"}, {Offset: 1, Key: "k", Gone: true}, {Offset: 2}},
	}
}

const fullBytes = "\x07\x01\x66\xac\x02\x08\x09\x03\x96\x01\x04\x05\x06" +
	"\x03\x00\x02xy\x02\x00\xff" + "\x03\x00\x01k\x02v\x01\x01k\x00\x02\x00\x01"

// numbers are the places of a message's numbers but of Err, in the order of their bytes, and the least and the most that may be.
func numbers(m *api.Message) []struct {
	p           *int
	least, most int
} {
	return []struct {
		p           *int
		least, most int
	}{
		{&m.Kind, 1, 10}, {&m.From, 0, 255}, {&m.To, 0, 255}, {&m.View, 0, maxOffset}, {&m.Normal, 0, maxOffset},
		{&m.End, 0, maxOffset}, {&m.Commit, 0, maxOffset}, {(*int)(&m.Err), 0, 999},
		{&m.Id.Producer, 0, maxOffset}, {&m.Id.Seq, 0, maxOffset}, {&m.Base, 0, maxOffset},
	}
}

// Wi1: the chapter's example, and bytes written out.
func TestWi1Forms(t *testing.T) {
	checkBoth(t, api.Message{Kind: 5}, "\x05"+strings.Repeat("\x00", 12))
	checkBoth(t, full(), fullBytes)
	checkBoth(t, api.Message{Kind: 1, Log: []string{""}}, "\x01"+strings.Repeat("\x00", 10)+"\x01\x00\x00")
	checkBoth(t, api.Message{Kind: 1, Log: []string{"ab", "c"}}, "\x01"+strings.Repeat("\x00", 10)+"\x02\x02ab\x01c\x00")
	checkBoth(t, api.Message{Kind: 1, Body: []api.Record{{}}}, "\x01"+strings.Repeat("\x00", 11)+"\x01\x00\x00\x01")
	checkBoth(t, api.Message{Kind: 1, Body: []api.Record{{Gone: true}}}, "\x01"+strings.Repeat("\x00", 11)+"\x01\x00\x00\x00")
}

// Wi1: each number stands in its own place.
func TestWi1Places(t *testing.T) {
	for i := range 11 {
		m := api.Message{Kind: 1}
		*numbers(&m)[i].p = 10
		want := []byte("\x01" + strings.Repeat("\x00", 12))
		want[i] = 10
		checkBoth(t, m, string(want))
	}
}

// Wi1: the least and the most of each number, and those beside them.
func TestWi1Numbers(t *testing.T) {
	for _, start := range []func() api.Message{full, func() api.Message { return api.Message{Kind: 1} }} {
		for i := range 11 {
			m := start()
			one := numbers(&m)[i]
			for _, n := range []int{one.least, one.least + 1, (one.least + one.most) / 2, one.most - 1, one.most} {
				*one.p = n
				checkBoth(t, m, written(m))
			}
			for _, n := range []int{one.most + 1, one.most + 2, 2 * one.most, 1 << 62, math.MaxInt} {
				*one.p = n
				checkNo(t, m)
				checkNot(t, written(m))
			}
			if one.least > 0 {
				*one.p = one.least - 1
				checkNo(t, m)
				checkNot(t, written(m))
			}
			for _, n := range []int{-1, -one.most, math.MinInt, math.MinInt + 1} {
				*one.p = n
				checkNo(t, m)
			}
		}
	}
}

func TestWi1Kinds(t *testing.T) {
	for kind := range 256 {
		m := full()
		m.Kind = kind
		if kind >= 1 && kind <= 10 {
			checkBoth(t, m, written(m))
			continue
		}
		checkNo(t, m)
		checkNot(t, written(m))
	}
	if wire.Check(api.Message{}) != api.ErrWire {
		t.Error("a message without a kind")
	}
}

// Wi1: so many texts as may be, and one more.
func TestWi1Texts(t *testing.T) {
	m := full()
	for _, text := range []string{"", "x", "word"} {
		m.Log = slices.Repeat([]string{text}, 4096)
		checkBoth(t, m, written(m))
		m.Log = slices.Repeat([]string{text}, 4097)
		checkNo(t, m)
		checkNot(t, written(m))
	}
	for _, n := range []int{127, 128, 16383, 16384, maxText - 1, maxText} {
		m.Log = []string{"ahead", longText[:n], "behind"}
		checkBoth(t, m, written(m))
	}
	for _, n := range []int{maxText + 1, maxText + 2, 2 * maxText} {
		long := (longText + longText)[:n]
		for _, log := range [][]string{{long}, {"ahead", long}, {long, "behind"}, {"ahead", long, "behind"}} {
			m.Log = log
			checkNo(t, m)
			checkNot(t, written(m))
		}
	}
}

func counted(n int, of api.Record) []api.Record {
	var l []api.Record
	for i := range n {
		of.Offset = i
		l = append(l, of)
	}
	return l
}

// Wi1: so many records as may be, and one more.
func TestWi1Records(t *testing.T) {
	m := full()
	for _, r := range []api.Record{{}, {Gone: true}, {Key: "k", Value: "v"}, {Key: longKey}} {
		for _, n := range []int{1, 127, 128, 129, 255, 256} {
			m.Body = counted(n, r)
			checkBoth(t, m, written(m))
		}
		for _, n := range []int{257, 258, 1000} {
			m.Body = counted(n, r)
			checkNo(t, m)
			checkNot(t, written(m))
		}
	}
	for _, r := range []api.Record{{Key: longKey}, {Value: longValue}, {Key: longKey, Value: longValue}, {Key: longKey, Gone: true}} {
		m.Body = counted(3, r)
		checkBoth(t, m, written(m))
	}
}

// Wi1: records of which one may not be, wherever it stands.
func TestWi1BadRecord(t *testing.T) {
	for _, bad := range []api.Record{
		{Key: longKey + "k"}, {Key: longKey + "k", Gone: true}, {Value: longValue + "v"}, {Gone: true, Value: "v"}, {Key: "k", Gone: true, Value: longValue},
	} {
		for at := range 3 {
			m := full()
			bad.Offset = at
			m.Body[at] = bad
			checkNo(t, m)
			if !bad.Gone || bad.Value == "" { // there are no bytes of a value of one that is gone
				checkNot(t, written(m))
			}
		}
	}
}

// Wi1: the offsets are 0, 1, .., and no others.
func TestWi1Offsets(t *testing.T) {
	for _, offsets := range [][]int{
		{1}, {2}, {maxOffset - 1}, {maxOffset}, {math.MaxInt}, {0, 0}, {1, 0}, {0, 2}, {1, 2}, {0, 1, 1}, {0, 1, 3}, {0, 2, 1}, {0, 0, 1}, {1, 2, 3}, {0, 1, maxOffset - 1},
	} {
		m := full()
		m.Body = nil
		for _, offset := range offsets {
			m.Body = append(m.Body, api.Record{Offset: offset, Key: "k", Value: "v"})
		}
		checkNo(t, m)
		checkNot(t, written(m))
	}
	for _, offset := range []int{-1, math.MinInt} {
		for at := range 3 {
			m := full()
			m.Body[at].Offset = offset
			checkNo(t, m)
		}
	}
}

// sized is a message whose bytes are so many: of a Log, or of a Log and a Body.
func sized(t *testing.T, n int, body []api.Record) api.Message {
	t.Helper()
	m := api.Message{Kind: 8, View: maxOffset, Body: body, Log: []string{longText, longText, longText, ""}}
	m.Log[3] = longText[:n-len(written(m))-2] // its length takes three bytes where that of none takes one
	if got := len(written(m)); got != n {
		t.Fatal(got)
	}
	return m
}

// Wi1: so many bytes as may be, and one more.
func TestWi1Long(t *testing.T) {
	for _, body := range [][]api.Record{nil, {{Key: "k", Value: "v"}}, counted(20, api.Record{Key: longKey, Value: longValue})} {
		for _, n := range []int{maxWire - 1, maxWire} {
			m := sized(t, n, body)
			checkBoth(t, m, written(m))
		}
		for _, n := range []int{maxWire + 1, maxWire + 2} {
			m := sized(t, n, body)
			checkTooLong(t, m)
			checkOf(t, written(m), api.Message{}, api.ErrLong)
		}
	}
}

// checkTooLong holds a message to be one that may be, and has too many bytes.
func checkTooLong(t *testing.T, m api.Message) {
	t.Helper()
	if e := wire.Check(m); e != api.OK {
		t.Error(e)
	}
	checkBytes(t, m, "", api.ErrLong)
}

// Wi1: a Body alone is too long, and a Log far beyond.
func TestWi1FarTooLong(t *testing.T) {
	m := full()
	m.Body = counted(256, api.Record{Key: longKey, Value: longValue})
	checkTooLong(t, m)
	checkOf(t, written(m), api.Message{}, api.ErrLong)
	m.Body = counted(256, api.Record{Value: longValue[:4000]})
	checkBoth(t, m, written(m))
	m.Log = slices.Repeat([]string{longText}, 4)
	checkTooLong(t, m)
	m.Log = slices.Repeat([]string{longText}, 4096)
	checkTooLong(t, m)
}

// Wi1 and R2: what may not be is told ahead of what is too long by Bytes, and behind it by Of.
func TestWi1Order(t *testing.T) {
	m := full()
	m.Log = slices.Repeat([]string{longText}, 9)
	checkTooLong(t, m)
	for i := range 11 {
		bad := m
		*numbers(&bad)[i].p = -1
		checkNo(t, bad)
	}
	bad := m
	bad.Body = []api.Record{{Offset: 1}}
	checkNo(t, bad)
	bad = m
	bad.Log = append(slices.Clone(m.Log), longText+"t")
	checkNo(t, bad)
	bad = m
	bad.Log = slices.Repeat([]string{longText}, 4097)
	checkNo(t, bad)
	for _, s := range []string{fullBytes, "", "\x00", "\x80"} {
		for _, filling := range []string{"\x00", "\x80", "x"} {
			checkNot(t, s+strings.Repeat(filling, maxWire-len(s)))
			checkOf(t, s+strings.Repeat(filling, maxWire-len(s)+1), api.Message{}, api.ErrLong)
			checkOf(t, s+strings.Repeat(filling, 3*maxWire), api.Message{}, api.ErrLong)
		}
	}
}

// Wi1: just the bytes of a message: no fewer, no more, and none left.
func TestWi1OfJust(t *testing.T) {
	for _, s := range []string{fullBytes, written(api.Message{Kind: 5}), written(api.Message{Kind: 1, Log: []string{"a"}}), written(api.Message{Kind: 1, Body: counted(1, api.Record{Value: "v"})})} {
		for n := range len(s) {
			checkNot(t, s[:n])
			checkNot(t, s[n+1:])
		}
		for b := range 256 {
			checkNot(t, s+string([]byte{byte(b)}))
		}
		checkNot(t, s+s)
	}
}

// Wi1: a number in a form that PutVar does not give, in each place.
func TestWi1OfBadNumber(t *testing.T) {
	places := []string{"\x07", "\x01", "\x66", "\xac\x02", "\x08", "\x09", "\x03", "\x96\x01", "\x04", "\x05", "\x06",
		"\x03", "\x00", "\x02", "xy", "\x02", "\x00\xff",
		"\x03", "\x00", "\x01", "k", "\x02", "v", "\x01", "\x01", "k", "\x00", "\x02", "\x00", "\x01"}
	if strings.Join(places, "") != fullBytes {
		t.Fatal("these are not the places")
	}
	for i, number := range places {
		if slices.Contains([]string{"xy", "\x00\xff", "k", "v"}, number) {
			continue
		}
		ahead, behind := strings.Join(places[:i], ""), strings.Join(places[i+1:], "")
		last := len(number) - 1
		for _, bad := range []string{
			number[:last] + string([]byte{number[last] | 128}) + "\x00",
			number[:last] + string([]byte{number[last] | 128}) + "\x80\x00",
			number[:last] + string([]byte{number[last] | 128}) + strings.Repeat("\x80", 8-len(number)) + "\x00",
			number[:last] + string([]byte{number[last] | 128}) + strings.Repeat("\x80", 9-len(number)) + "\x00",
			number[:last] + string([]byte{number[last] | 128}) + strings.Repeat("\x80", 9-len(number)) + "\x01",
			strings.Repeat("\xff", 8) + "\x7f",
			strings.Repeat("\xff", 9) + "\x01",
			strings.Repeat("\xff", 99),
			strings.Repeat("\x80", 99),
			"",
		} {
			checkNot(t, ahead+bad+behind)
			checkNot(t, ahead+bad)
		}
	}
}

// Wi1: more or fewer texts and records than there are.
func TestWi1OfCounts(t *testing.T) {
	head := "\x01" + strings.Repeat("\x00", 10)
	checkOf(t, head+"\x02\x01a\x01b\x01\x00\x00\x02v", api.Message{Kind: 1, Log: []string{"a", "b"}, Body: []api.Record{{Value: "v"}}}, api.OK)
	for _, s := range []string{
		"\x01\x01a\x01b\x01\x00\x00\x02v", "\x03\x01a\x01b\x01\x00\x00\x02v", "\x02\x01a\x01b\x02\x00\x00\x02v", "\x02\x01a\x01b\x00\x00\x00\x02v",
		"\x02\x01a\x02b\x01\x00\x00\x02v", "\x02\x01a\x01b\x01\x00\x00\x03v", "\x02\x01a\x01b\x01\x00\x00\x01v",
		"\x02\x01a\x01b", "\x02\x01a", "\x02", "", "\x01\x05abcd", "\x00", "\x00\x01", "\x00\x00\x00",
	} {
		checkNot(t, head+s)
	}
	for _, n := range []int{1, 4096, 4097, 1 << 20, 1 << 40, math.MaxInt} {
		checkNot(t, head+putVar(n))
		checkNot(t, head+putVar(n)+strings.Repeat("\x00", 9000)+"x")
		checkNot(t, head+"\x00"+putVar(n))
		checkNot(t, head+"\x01"+putVar(n))
		checkNot(t, head+"\x01"+putVar(n)+"x")
		checkNot(t, head+"\x00\x01\x00"+putVar(n)+"x")
	}
}

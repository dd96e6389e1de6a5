package wire_test

import (
	"encoding/binary"
	"math/rand"
	"strings"
	"testing"

	"postroad/api"
	"postroad/wire"
)

func putVar(n int) string { return string(binary.AppendUvarint(nil, uint64(n))) }

// written are the bytes of a message by the chapter's words, whether it may be or not.
func written(m api.Message) string {
	var out []byte
	number := func(n int) { out = binary.AppendUvarint(out, uint64(n)) }
	for _, n := range []int{m.Kind, m.From, m.To, m.View, m.Normal, m.End, m.Commit, int(m.Err), m.Id.Producer, m.Id.Seq, m.Base} {
		number(n)
	}
	number(len(m.Log))
	for _, text := range m.Log {
		number(len(text))
		out = append(out, text...)
	}
	number(len(m.Body))
	for _, r := range m.Body {
		number(r.Offset)
		number(len(r.Key))
		out = append(out, r.Key...)
		if r.Gone {
			number(0)
			continue
		}
		number(len(r.Value) + 1)
		out = append(out, r.Value...)
	}
	return string(out)
}

// holds is the chapter's words on which message may be.
func holds(m api.Message) bool {
	for _, one := range numbers(&m) {
		if *one.p < one.least || *one.p > one.most {
			return false
		}
	}
	if len(m.Log) > 4096 || len(m.Body) > 256 {
		return false
	}
	for _, text := range m.Log {
		if len(text) > 1<<18+10 {
			return false
		}
	}
	for i, r := range m.Body {
		if r.Offset != i || len(r.Key) > 64 || len(r.Value) > 4096 || r.Gone && r.Value != "" {
			return false
		}
	}
	return true
}

// guess reads bytes without any care. If they are the bytes of a message, it is this one.
func guess(s string) api.Message {
	number := func() int {
		x, n := binary.Uvarint([]byte(s[:min(10, len(s))]))
		if n <= 0 || x >= 1<<63 {
			s = ""
			return 1 << 62
		}
		s = s[n:]
		return int(x)
	}
	text := func(n int) string {
		n = min(n, len(s))
		piece := s[:n]
		s = s[n:]
		return piece
	}
	var m api.Message
	for _, one := range numbers(&m) {
		*one.p = number()
	}
	for range min(number(), 5000) {
		m.Log = append(m.Log, text(number()))
	}
	for range min(number(), 300) {
		r := api.Record{Offset: number()}
		r.Key = text(number())
		size := number()
		r.Gone = size == 0
		r.Value = text(max(0, size-1))
		m.Body = append(m.Body, r)
	}
	return m
}

// checkAgainstModel holds Of to the chapter's words: what was guessed is right if it may be, and is written as those very bytes.
func checkAgainstModel(t *testing.T, s string) bool {
	t.Helper()
	if len(s) > maxWire {
		checkOf(t, s, api.Message{}, api.ErrLong)
		return false
	}
	m := guess(s)
	if !holds(m) || written(m) != s {
		checkNot(t, s)
		return false
	}
	checkBoth(t, m, s)
	return true
}

// Wi1: every short text out of some bytes, behind the first ten numbers and behind an end of them.
func TestWi1Every(t *testing.T) {
	const letters = "\x00\x01\x02\x03\x80\x81"
	head := "\x03" + strings.Repeat("\x00", 9)
	right := 0
	var each func(s string)
	each = func(s string) {
		for _, ahead := range []string{head, head + "\x07\x00", head + "\x07\x01"} {
			if checkAgainstModel(t, ahead+s) {
				right++
			}
		}
		if len(s) < 5 {
			for i := range len(letters) {
				each(s + letters[i:i+1])
			}
		}
	}
	each("")
	if right < 100 {
		t.Error("only so many were right:", right)
	}
}

func someText(r *rand.Rand, most int) string {
	n := []int{0, 1, 2, r.Intn(most + 1), most}[r.Intn(5)]
	out := make([]byte, n)
	r.Read(out)
	return string(out)
}

// someMessage is a message that may be, and has not too many bytes.
func someMessage(r *rand.Rand) api.Message {
	var m api.Message
	for _, one := range numbers(&m) {
		few := one.least + r.Intn(min(one.most, 300)-one.least+1)
		*one.p = []int{one.least, few, one.least + r.Intn(one.most-one.least+1), one.most}[r.Intn(4)]
	}
	for range []int{0, 1, r.Intn(9)}[r.Intn(3)] {
		m.Log = append(m.Log, someText(r, []int{9, 300, 20000}[r.Intn(3)]))
	}
	for i := range []int{0, 1, r.Intn(9), r.Intn(257)}[r.Intn(4)] {
		one := api.Record{Offset: i, Key: someText(r, 64), Gone: r.Intn(3) == 0}
		if !one.Gone {
			one.Value = someText(r, []int{9, 200, 3000}[r.Intn(3)])
		}
		m.Body = append(m.Body, one)
	}
	return m
}

// Wi2: messages come back as they were.
func TestWi2Back(t *testing.T) {
	r := rand.New(rand.NewSource(14))
	for range 3000 {
		m := someMessage(r)
		s, e := wire.Bytes(m)
		if e != api.OK {
			t.Fatal(e)
		}
		checkOf(t, s, m, api.OK)
		checkBoth(t, m, written(m))
		checkNot(t, s[:r.Intn(len(s))])
		checkNot(t, s+someText(r, 9)+"\x00")
	}
}

// spoilt is a text with one thing in it changed.
func spoilt(r *rand.Rand, s string) string {
	at := r.Intn(len(s) + 1)
	near := min(at, r.Intn(30)) // the first bytes are numbers more often
	b := string([]byte{byte(r.Intn(256)) >> r.Intn(8)})
	switch r.Intn(5) {
	case 0:
		return s[:at]
	case 1:
		return s[:near] + b + s[near:]
	case 2:
		return s[:near] + s[min(len(s), near+1):]
	case 3:
		return s[:near] + b + s[min(len(s), near+1):]
	}
	return s + s[near:at]
}

// Wi1, Wi2: bytes that were changed are no message's, or another one's; no two texts are those of the same message.
func TestWi2Spoilt(t *testing.T) {
	r := rand.New(rand.NewSource(15))
	right := 0
	for range 20000 {
		m := someMessage(r)
		m.Log, m.Body = m.Log[:min(len(m.Log), 2)], m.Body[:min(len(m.Body), 2)]
		s := written(m)
		for range 1 + r.Intn(2) {
			s = spoilt(r, s)
		}
		if checkAgainstModel(t, s) {
			right++
		}
	}
	if right < 1000 || right > 19000 {
		t.Error("so many were right:", right)
	}
}

// Wi2: each other byte in each place.
func TestWi2OneByte(t *testing.T) {
	s := []byte(fullBytes)
	for i, was := range s {
		for b := range 256 {
			s[i] = byte(b)
			checkAgainstModel(t, string(s))
		}
		s[i] = was
	}
}

// Wi1: messages that may be and such as may not, by whatever is in them.
func TestWi1AgainstModel(t *testing.T) {
	r := rand.New(rand.NewSource(16))
	may := 0
	for range 10000 {
		m := someMessage(r)
		if r.Intn(2) == 0 {
			one := numbers(&m)[r.Intn(11)]
			*one.p += r.Intn(5) - 2
		}
		for i := range m.Body {
			switch r.Intn(20 * len(m.Body)) {
			case 0:
				m.Body[i].Offset += r.Intn(3) - 1
			case 1:
				m.Body[i].Key += longKey[:r.Intn(65)]
			case 2:
				m.Body[i].Gone = true
			case 3:
				m.Body[i].Value += longValue[:r.Intn(4097)]
			}
		}
		if !holds(m) {
			checkNo(t, m)
			continue
		}
		checkBoth(t, m, written(m))
		may++
	}
	if may < 1000 || may > 9000 {
		t.Error("so many might be:", may)
	}
}

func FuzzOf(f *testing.F) {
	f.Add(fullBytes)
	f.Add("\x05" + strings.Repeat("\x00", 12))
	f.Add("\x01" + strings.Repeat("\x00", 10) + strings.Repeat("\xff", 8) + "\x7f")
	f.Fuzz(func(t *testing.T, s string) { checkAgainstModel(t, s) })
}

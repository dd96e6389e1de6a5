package batch_test

import (
	"math"
	"math/rand"
	"slices"
	"strings"
	"testing"
	"unsafe"

	"postroad/api"
	"postroad/batch"
)

func someText(r *rand.Rand, most int) string {
	n := []int{0, 1, 2, r.Intn(most + 1), most}[r.Intn(5)]
	if r.Intn(2) == 0 {
		return strings.Repeat("ab", n/2)
	}
	out := make([]byte, n)
	r.Read(out)
	return string(out)
}

// someBatch is a batch that may be.
func someBatch(r *rand.Rand) api.Batch {
	number := func(most int) int { return []int{0, 1, r.Intn(most + 1), most}[r.Intn(4)] }
	b := api.Batch{
		Base: number(lastBase), Count: 1 + number(255),
		View: number(lastNumber), Producer: number(lastNumber), Seq: number(lastNumber),
	}
	often := 1 + r.Intn(20)
	for i := range b.Count {
		if r.Intn(often) != 0 {
			continue
		}
		one := api.Record{Offset: b.Base + i, Key: someText(r, 64), Gone: r.Intn(3) == 0}
		if !one.Gone {
			one.Value = someText(r, []int{9, 200, 900}[r.Intn(3)])
		}
		b.Records = append(b.Records, one)
	}
	return b
}

// Ba3: batches come back as they were, whatever stands behind their bytes.
func TestBa3Back(t *testing.T) {
	r := rand.New(rand.NewSource(10))
	for range 300 {
		b := someBatch(r)
		for _, codec := range codecs {
			s := checkBytes(t, b, codec)
			checkRight(t, s, b)
			for _, behind := range []string{"\x00", "x", s, someText(r, 99)} {
				checkOf(t, s+behind, b, len(s), api.OK)
				checkHead(t, s+behind, b, len(s), api.OK)
			}
			checkRefused(t, s[:r.Intn(len(s))], api.ErrShort)
		}
	}
	for _, b := range mayBe() {
		for _, codec := range codecs {
			checkRight(t, checkBytes(t, b, codec), b)
		}
	}
}

// Ba3: batches one behind the other are read one by one.
func TestBa3Row(t *testing.T) {
	r := rand.New(rand.NewSource(11))
	var row []api.Batch
	var s strings.Builder
	for i := range 60 {
		row = append(row, someBatch(r))
		s.WriteString(checkBytes(t, row[i], i%3))
	}
	rest := s.String()
	for _, b := range row {
		got, n, e := batch.Of(rest)
		head, m, f := batch.Head(rest)
		if e != api.OK || f != api.OK || n != m || !alike(got, b) || !alike(head, bare(b)) {
			t.Fatal(n, e, m, f)
		}
		rest = rest[n:]
	}
	checkRefused(t, rest, api.ErrShort)
}

// Ba3: each other byte in each place behind the first six.
func TestBa3OneByte(t *testing.T) {
	for _, b := range []api.Batch{ordinary(), {Count: 1}, {Base: 5, Count: 1, Records: []api.Record{{Offset: 5, Gone: true}}}} {
		for _, codec := range codecs {
			s := []byte(checkBytes(t, b, codec))
			for i := 6; i < len(s); i++ {
				was := s[i]
				for turn := 1; turn < 256; turn++ {
					s[i] = was ^ byte(turn)
					checkRefused(t, string(s), api.ErrBatch)
				}
				s[i] = was
				if t.Failed() {
					t.Fatal("codec", codec, "place", i)
				}
			}
		}
	}
}

// Ba3: and in a batch that is as large as may be.
func TestBa3OneByteOfMany(t *testing.T) {
	r := rand.New(rand.NewSource(12))
	s := []byte(checkBytes(t, filled(api.MaxBatch-29, noise(2)), api.CodecNone))
	for range 300 {
		i := 6 + r.Intn(len(s)-6)
		was := s[i]
		s[i] ^= byte(1 + r.Intn(255))
		checkRefused(t, string(s)+"behind", api.ErrBatch)
		s[i] = was
	}
}

// checkAnswer holds an answer to what R2 and Ba2 say of all answers, and tells whether it is OK.
func checkAnswer(t *testing.T, s string) bool {
	t.Helper()
	b, n, e := batch.Of(s)
	head, m, f := batch.Head(s)
	switch {
	case e == api.OK:
		if batch.Check(b) != api.OK || f != api.OK || n != m || n > len(s) || n < 39 || !alike(head, bare(b)) {
			t.Errorf("%q: %+v, %d, %+v, %d, %d", s[:min(len(s), 60)], bare(b), n, bare(head), m, f)
		}
	case !alike(b, api.Batch{}) || n != 0 || e != api.ErrShort && e != api.ErrBatch:
		t.Errorf("%q: %+v, %d, %d", s[:min(len(s), 60)], bare(b), n, e)
	case f == api.OK:
		if e != api.ErrBatch || len(head.Records) != 0 || batch.Check(head) != api.OK || m > len(s) || m < 39 {
			t.Errorf("%q: %d, %+v, %d", s[:min(len(s), 60)], e, bare(head), m)
		}
	case e != f || m != 0 || !alike(head, api.Batch{}):
		t.Errorf("%q: %d, %+v, %d, %d", s[:min(len(s), 60)], e, bare(head), m, f)
	}
	return e == api.OK
}

// R1, Ba2: an answer out of whatever bytes, the sum of which is right.
func TestR1Whatever(t *testing.T) {
	r := rand.New(rand.NewSource(13))
	right := 0
	for range 6000 {
		b := someBatch(r)
		b.Records = b.Records[:min(len(b.Records), 5)]
		s := []byte(checkBytes(t, b, r.Intn(3)))
		summed := s[10:]
		for range r.Intn(3) {
			i := r.Intn(len(summed))
			if r.Intn(2) == 0 {
				i = min(i, 18+r.Intn(40)) // what is told of the packed bytes, and their beginning
			}
			summed[i] = byte(r.Intn(256)) >> r.Intn(8)
		}
		if checkAnswer(t, closed(string(summed[:len(summed)-r.Intn(2)*r.Intn(9)]))) {
			right++
		}
	}
	if right < 100 || right > 5000 {
		t.Error("so many were right:", right)
	}
}

// R1: bytes without any form, and such as only begin like a batch.
func TestR1Noise(t *testing.T) {
	r := rand.New(rand.NewSource(14))
	for range 2000 {
		s := someText(r, 300)
		checkAnswer(t, s)
		checkAnswer(t, "PB"+s)
		checkAnswer(t, "PB\x20\x00\x00\x00"+s)
		checkAnswer(t, closed(s))
	}
}

// R1: each call ends at all arguments.
func TestR1Ends(t *testing.T) {
	numbers := []int{math.MinInt, math.MinInt + 1, -1, 0, 1, 256, lastNumber, lastBase, api.MaxOffset, math.MaxInt - 1, math.MaxInt}
	for _, base := range numbers {
		for _, count := range numbers {
			for _, offset := range numbers {
				b := api.Batch{Base: base, Count: count, View: offset, Producer: offset, Seq: offset, Records: []api.Record{{Offset: offset}, {Offset: offset, Gone: true, Value: "v"}}}
				batch.Check(b)
				batch.Bytes(b, offset)
				b.View, b.Producer, b.Seq = 0, 0, 0
				batch.Check(b)
				batch.Bytes(b, 1)
				b.Records = b.Records[:1]
				batch.Bytes(b, 2)
			}
		}
	}
	many := api.Batch{Count: 256, Records: make([]api.Record, 1<<20)}
	checkNoBytes(t, many, 0, api.ErrBatch)
}

// R2: a refused call leaves nothing behind that the next one could tell.
func TestR2NothingChanged(t *testing.T) {
	b := ordinary()
	for _, codec := range codecs {
		s := checkBytes(t, b, codec)
		for range 2 {
			checkRefused(t, s[:20], api.ErrShort)
			checkRefused(t, s[:38]+"\xff"+s[39:], api.ErrBatch)
			checkRight(t, s, b)
			checkNoBytes(t, b, -1, api.ErrArg)
			if again := checkBytes(t, b, codec); again != s {
				t.Error("other bytes")
			}
		}
	}
}

// lies tells whether bytes lie in the memory of others.
func lies(part, whole string) bool {
	at := uintptr(unsafe.Pointer(unsafe.StringData(part)))
	from := uintptr(unsafe.Pointer(unsafe.StringData(whole)))
	return part != "" && at >= from && at < from+uintptr(len(whole))
}

// R3: what lies behind a list's end is not read, and nothing of a list is changed.
func TestR3Room(t *testing.T) {
	room := append(ordinary().Records, api.Record{Offset: -1, Gone: true, Value: "x"}, api.Record{Offset: 4})
	before := slices.Clone(room)
	b := ordinary()
	for _, codec := range codecs {
		b.Records = room[:4]
		checkRight(t, checkBytes(t, b, codec), ordinary())
		b.Records = room[:5]
		checkNoBytes(t, b, codec, api.ErrBatch)
	}
	if !slices.Equal(room, before) {
		t.Error(room)
	}
}

// R3: an answer is new memory, whatever it was made of.
func TestR3NewMemory(t *testing.T) {
	b := ordinary()
	b.Records[0].Key, b.Records[0].Value = longKey, strings.Clone(longValue)
	for _, codec := range codecs {
		s := checkBytes(t, b, codec)
		if again := checkBytes(t, b, codec); lies(again, s) || lies(s, again) || lies(s, b.Records[0].Value) {
			t.Error("Bytes answers memory of another")
		}
		one, _, _ := batch.Of(s)
		two, _, _ := batch.Of(s)
		for _, r := range one.Records {
			if lies(r.Key, s) || lies(r.Value, s) {
				t.Error("Of answers memory of its argument")
			}
		}
		for _, r := range one.Records[:cap(one.Records)][len(one.Records):] {
			if r != (api.Record{}) {
				t.Error("in the spare room:", r)
			}
		}
		one.Records[0].Key = "other"
		_ = append(one.Records, api.Record{Key: "more"})
		if !alike(two, b) {
			t.Error("two answers share their memory")
		}
	}
}

// R3: nil and the empty list are the same.
func TestR3Empty(t *testing.T) {
	for _, codec := range codecs {
		want := checkBytes(t, api.Batch{Base: 3, Count: 2}, codec)
		for _, l := range [][]api.Record{{}, make([]api.Record, 0, 9)} {
			if got := checkBytes(t, api.Batch{Base: 3, Count: 2, Records: l}, codec); got != want {
				t.Errorf("%q, want %q", got, want)
			}
		}
		checkRight(t, want, api.Batch{Base: 3, Count: 2})
	}
}

// R4: the same arguments, the same answer, whatever room stands behind them and whatever was called ahead.
func TestR4Same(t *testing.T) {
	for _, codec := range codecs {
		want := checkBytes(t, ordinary(), codec)
		for _, l := range [][]api.Record{slices.Clip(ordinary().Records), slices.Grow(ordinary().Records, 99)} {
			b := ordinary()
			b.Records = l
			checkBytes(t, full(), codec)
			if got := checkBytes(t, b, codec); got != want {
				t.Error("other bytes by the same records")
			}
		}
	}
}

func FuzzOf(f *testing.F) {
	for _, b := range []api.Batch{ordinary(), {Count: 1}} {
		for _, codec := range codecs {
			s, _ := batch.Bytes(b, codec)
			f.Add(s[10:])
		}
	}
	f.Fuzz(func(t *testing.T, summed string) {
		checkAnswer(t, summed)
		checkAnswer(t, closed(summed))
	})
}

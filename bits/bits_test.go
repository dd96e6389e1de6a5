package bits_test

import (
	"math"
	"strings"
	"testing"

	"postroad/api"
	"postroad/bits"
)

const (
	maxInt = math.MaxInt64
	minInt = math.MinInt64
)

func wantBits(t *testing.T, r *bits.Reader, n, x int, e api.Errno) {
	t.Helper()
	if gotX, gotE := r.Bits(n); gotX != x || gotE != e {
		t.Errorf("Bits(%d): %d %d, want %d %d", n, gotX, gotE, x, e)
	}
}

func wantBytes(t *testing.T, r *bits.Reader, n int, s string, e api.Errno) {
	t.Helper()
	if gotS, gotE := r.Bytes(n); gotS != s || gotE != e {
		t.Errorf("Bytes(%d): %q %d, want %q %d", n, gotS, gotE, s, e)
	}
}

func wantErr(t *testing.T, what string, got, want api.Errno) {
	t.Helper()
	if got != want {
		t.Errorf("%s: %d, want %d", what, got, want)
	}
}

func wantPlace(t *testing.T, o interface{ Place() int }, place int) {
	t.Helper()
	if got := o.Place(); got != place {
		t.Errorf("Place: %d, want %d", got, place)
	}
}

func wantDone(t *testing.T, w *bits.Writer, s string) {
	t.Helper()
	if got := w.Done(); got != s {
		t.Errorf("Done: %q, want %q", got, s)
	}
}

// Bi1: the lowest bit of a byte comes first, and is the number's lowest.
func TestBi1Order(t *testing.T) {
	r := bits.NewReader("\x0d\x96")
	wantPlace(t, r, 0)
	wantBits(t, r, 3, 5, api.OK)
	wantBits(t, r, 1, 1, api.OK)
	wantBits(t, r, 4, 0, api.OK)
	for i, x := range []int{0, 1, 1, 0, 1, 0, 0, 1} {
		wantPlace(t, r, 8+i)
		wantBits(t, r, 1, x, api.OK)
	}
	wantPlace(t, r, 16)
}

// Bi1: a number goes over bytes' ends, up to MaxBits bits from whatever place on.
func TestBi1Wide(t *testing.T) {
	ones := strings.Repeat("\xff", 9)
	for skip := range 8 {
		r := bits.NewReader(ones)
		wantBits(t, r, skip, 1<<skip-1, api.OK)
		wantBits(t, r, api.MaxBits, 1<<57-1, api.OK)
		wantPlace(t, r, skip+57)
	}
	r := bits.NewReader("\x00\x01\x02\x03\x04\x05\x06\x07")
	wantBits(t, r, 4, 0, api.OK)
	wantBits(t, r, 56, 0x70605040302010, api.OK)
	wantBits(t, r, 4, 0, api.OK)
}

func TestBi1BitsRefused(t *testing.T) {
	r := bits.NewReader(strings.Repeat("\xff", 8))
	for _, n := range []int{-1, 58, 64, maxInt, minInt} {
		wantBits(t, r, n, 0, api.ErrArg)
		wantPlace(t, r, 0)
	}
	wantBits(t, r, 57, 1<<57-1, api.OK)
	wantBits(t, r, 8, 0, api.ErrShort)
	wantPlace(t, r, 57)
	wantBits(t, r, 58, 0, api.ErrArg)
	wantBits(t, r, 7, 127, api.OK)
	wantBits(t, r, 1, 0, api.ErrShort)
	wantBits(t, r, 0, 0, api.OK)
	wantPlace(t, r, 64)
	empty := bits.NewReader("")
	wantBits(t, empty, 0, 0, api.OK)
	wantBits(t, empty, 1, 0, api.ErrShort)
}

func TestBi1Align(t *testing.T) {
	for skip := range 17 {
		r := bits.NewReader("abc")
		r.Bits(skip)
		for range 2 {
			wantErr(t, "Align", r.Align(), api.OK)
			wantPlace(t, r, []int{0, 8, 8, 8, 8, 8, 8, 8, 8, 16, 16, 16, 16, 16, 16, 16, 16}[skip])
		}
	}
	r := bits.NewReader("a")
	r.Bits(1)
	wantErr(t, "Align", r.Align(), api.OK)
	wantErr(t, "Align", r.Align(), api.OK)
	wantPlace(t, r, 8)
	wantErr(t, "Align", bits.NewReader("").Align(), api.OK)
}

func TestBi1Bytes(t *testing.T) {
	r := bits.NewReader("abcde")
	wantBytes(t, r, 2, "ab", api.OK)
	wantPlace(t, r, 16)
	wantBytes(t, r, 0, "", api.OK)
	wantBits(t, r, 8, 'c', api.OK)
	wantBytes(t, r, 3, "", api.ErrShort)
	wantBytes(t, r, maxInt, "", api.ErrShort)
	wantBytes(t, r, -1, "", api.ErrArg)
	wantBytes(t, r, minInt, "", api.ErrArg)
	wantPlace(t, r, 24)
	wantBytes(t, r, 2, "de", api.OK)
	wantBytes(t, r, 1, "", api.ErrShort)
	wantBytes(t, r, 0, "", api.OK)
	wantPlace(t, r, 40)
	wantBytes(t, bits.NewReader(""), 0, "", api.OK)
}

// Bi1 and R2: of several errors the one that is named first.
func TestBi1BytesWithinAByte(t *testing.T) {
	for skip := 1; skip < 8; skip++ {
		r := bits.NewReader("ab")
		r.Bits(skip)
		wantBytes(t, r, 1, "", api.ErrBits)
		wantBytes(t, r, 0, "", api.ErrBits)
		wantBytes(t, r, 9, "", api.ErrBits)
		wantBytes(t, r, -1, "", api.ErrArg)
		wantPlace(t, r, skip)
	}
}

// Bi2, by the chapter's example among others.
func TestBi2Order(t *testing.T) {
	w := bits.NewWriter()
	wantPlace(t, w, 0)
	wantDone(t, w, "")
	wantErr(t, "Bits(5, 3)", w.Bits(5, 3), api.OK)
	wantErr(t, "Bits(1, 1)", w.Bits(1, 1), api.OK)
	wantDone(t, w, "\x0d")
	wantPlace(t, w, 4)
	wantErr(t, "Bits(0, 0)", w.Bits(0, 0), api.OK)
	wantPlace(t, w, 4)
	wantErr(t, "Bits(0x196, 9)", w.Bits(0x196, 9), api.OK)
	wantPlace(t, w, 13)
	wantDone(t, w, "\x6d\x19")
	wantErr(t, "Bits(7, 3)", w.Bits(7, 3), api.OK)
	wantPlace(t, w, 16)
	wantDone(t, w, "\x6d\xf9")
}

func TestBi2Wide(t *testing.T) {
	for skip := range 8 {
		w := bits.NewWriter()
		wantErr(t, "Bits", w.Bits(0, skip), api.OK)
		wantErr(t, "Bits", w.Bits(1<<57-1, 57), api.OK)
		wantPlace(t, w, skip+57)
		r := bits.NewReader(w.Done())
		wantBits(t, r, skip, 0, api.OK)
		wantBits(t, r, 57, 1<<57-1, api.OK)
		wantBits(t, r, (8-(skip+57)%8)%8, 0, api.OK)
		wantBits(t, r, 1, 0, api.ErrShort)
	}
}

func TestBi2BitsRefused(t *testing.T) {
	w := bits.NewWriter()
	w.Bits(1, 1)
	for _, a := range [][2]int{
		{0, -1}, {1, -1}, {0, 58}, {1, 64}, {0, maxInt}, {0, minInt},
		{-1, 0}, {1, 0}, {-1, 1}, {2, 1}, {8, 3}, {256, 8}, {-1, 57}, {1 << 57, 57},
		{maxInt, 57}, {minInt, 57}, {minInt, 0}, {-1, -1}, {-1, 64},
	} {
		if e := w.Bits(a[0], a[1]); e != api.ErrArg {
			t.Errorf("Bits(%d, %d): %d", a[0], a[1], e)
		}
		wantPlace(t, w, 1)
		wantDone(t, w, "\x01")
	}
	for n := range api.MaxBits + 1 {
		v := bits.NewWriter()
		wantErr(t, "Bits", v.Bits(1<<n, n), api.ErrArg)
		wantErr(t, "Bits", v.Bits(1<<n-1, n), api.OK)
		wantPlace(t, v, n)
	}
}

func TestBi2Align(t *testing.T) {
	for n := range 17 {
		w := bits.NewWriter()
		w.Bits(1<<n-1, n)
		done := w.Done()
		for range 2 {
			wantErr(t, "Align", w.Align(), api.OK)
			wantPlace(t, w, []int{0, 8, 8, 8, 8, 8, 8, 8, 8, 16, 16, 16, 16, 16, 16, 16, 16}[n])
			wantDone(t, w, done)
		}
		wantErr(t, "Bits", w.Bits(1, 1), api.OK)
		wantDone(t, w, done+"\x01")
	}
	w := bits.NewWriter()
	w.Bits(1, 1)
	wantErr(t, "Align", w.Align(), api.OK)
	wantDone(t, w, "\x01")
}

func TestBi2Bytes(t *testing.T) {
	w := bits.NewWriter()
	wantErr(t, "Bytes", w.Bytes(""), api.OK)
	wantErr(t, "Bytes", w.Bytes("a\x00\xff"), api.OK)
	wantPlace(t, w, 24)
	w.Bits(1, 1)
	wantErr(t, "Bytes", w.Bytes("b"), api.ErrBits)
	wantErr(t, "Bytes", w.Bytes(""), api.ErrBits)
	wantPlace(t, w, 25)
	wantDone(t, w, "a\x00\xff\x01")
	w.Bits(127, 7)
	wantErr(t, "Bytes", w.Bytes("b"), api.OK)
	wantDone(t, w, "a\x00\xff\xffb")
	wantPlace(t, w, 40)
}

// Bi2 and R3: Done's answer stays as it is when the writer goes on.
func TestBi2DoneGoesOn(t *testing.T) {
	w := bits.NewWriter()
	w.Bytes("ab")
	w.Bits(1, 2)
	early := w.Done()
	wantDone(t, w, early)
	w.Bits(3, 2)
	w.Bits(5, 9)
	if early != "ab\x01" {
		t.Errorf("Done has changed: %q", early)
	}
	wantDone(t, w, "ab\x5d\x00")
}

func TestBi3PutVar(t *testing.T) {
	for _, c := range []struct {
		n int
		s string
	}{
		{0, "\x00"}, {1, "\x01"}, {127, "\x7f"}, {128, "\x80\x01"}, {255, "\xff\x01"}, {256, "\x80\x02"}, {300, "\xac\x02"},
		{16383, "\xff\x7f"}, {16384, "\x80\x80\x01"}, {1 << 56, "\x80\x80\x80\x80\x80\x80\x80\x80\x01"},
		{1<<56 - 1, "\xff\xff\xff\xff\xff\xff\xff\x7f"}, {maxInt, "\xff\xff\xff\xff\xff\xff\xff\xff\x7f"},
	} {
		if s, e := bits.PutVar(c.n); s != c.s || e != api.OK {
			t.Errorf("PutVar(%d): %q %d, want %q", c.n, s, e, c.s)
		}
		for _, behind := range []string{"", "\x00", "\x80", "\xff\xff\xff\xff\xff\xff\xff\xff\xff"} {
			if n, k, e := bits.Var(c.s + behind); n != c.n || k != len(c.s) || e != api.OK {
				t.Errorf("Var(%q): %d %d %d, want %d %d", c.s+behind, n, k, e, c.n, len(c.s))
			}
		}
	}
	for _, n := range []int{-1, -128, minInt} {
		if s, e := bits.PutVar(n); s != "" || e != api.ErrArg {
			t.Errorf("PutVar(%d): %q %d", n, s, e)
		}
	}
}

func TestBi3VarRefused(t *testing.T) {
	open := strings.Repeat("\x81", 12)
	for n := range len(open) + 1 {
		want := api.ErrShort
		if n >= 9 {
			want = api.ErrBits
		}
		if x, k, e := bits.Var(open[:n]); x != 0 || k != 0 || e != want {
			t.Errorf("Var of %d open bytes: %d %d %d, want %d", n, x, k, e, want)
		}
	}
	for n := range 12 {
		if x, k, e := bits.Var(open[:n+1] + "\x00"); x != 0 || k != 0 || e != api.ErrBits {
			t.Errorf("Var of %d open bytes and a nought: %d %d %d", n+1, x, k, e)
		}
	}
	for _, s := range []string{"\x80\x00", "\x80\x80\x00", "\x80\x00\x01", open[:9] + "\x01"} {
		if x, k, e := bits.Var(s); x != 0 || k != 0 || e != api.ErrBits {
			t.Errorf("Var(%q): %d %d %d", s, x, k, e)
		}
	}
	if x, k, e := bits.Var("\x81\x80\x80\x80\x80\x80\x80\x80\x01"); x != 1<<56+1 || k != 9 || e != api.OK {
		t.Errorf("Var of nine bytes: %d %d %d", x, k, e)
	}
}

func TestBi3Fixed(t *testing.T) {
	for _, c := range []struct {
		n, bytes int
		s        string
	}{
		{0, 1, "\x00"}, {255, 1, "\xff"}, {258, 2, "\x02\x01"}, {0, 8, "\x00\x00\x00\x00\x00\x00\x00\x00"},
		{65535, 2, "\xff\xff"}, {65536, 3, "\x00\x00\x01"}, {0x12345678, 4, "\x78\x56\x34\x12"}, {5, 4, "\x05\x00\x00\x00"},
		{1<<56 - 1, 7, "\xff\xff\xff\xff\xff\xff\xff"}, {1 << 56, 8, "\x00\x00\x00\x00\x00\x00\x00\x01"},
		{maxInt, 8, "\xff\xff\xff\xff\xff\xff\xff\x7f"},
	} {
		if s, e := bits.PutFixed(c.n, c.bytes); s != c.s || e != api.OK {
			t.Errorf("PutFixed(%d, %d): %q %d, want %q", c.n, c.bytes, s, e, c.s)
		}
		for _, behind := range []string{"", "\xff", "\xff\xff\xff\xff\xff\xff\xff\xff"} {
			if n, e := bits.Fixed(c.s+behind, c.bytes); n != c.n || e != api.OK {
				t.Errorf("Fixed(%q, %d): %d %d, want %d", c.s+behind, c.bytes, n, e, c.n)
			}
		}
	}
}

func TestBi3PutFixedRefused(t *testing.T) {
	for _, a := range [][2]int{
		{0, 0}, {0, -1}, {0, 9}, {0, minInt}, {0, maxInt}, {1, 1 << 61}, {-1, 8}, {minInt, 8}, {-1, 1}, {maxInt, 7}, {-1, 0},
	} {
		if s, e := bits.PutFixed(a[0], a[1]); s != "" || e != api.ErrArg {
			t.Errorf("PutFixed(%d, %d): %q %d", a[0], a[1], s, e)
		}
	}
	for bytes := 1; bytes < 8; bytes++ {
		if s, e := bits.PutFixed(1<<(8*bytes), bytes); s != "" || e != api.ErrArg {
			t.Errorf("PutFixed of 256^%d: %q %d", bytes, s, e)
		}
		if _, e := bits.PutFixed(1<<(8*bytes)-1, bytes); e != api.OK {
			t.Errorf("PutFixed of 256^%d - 1: %d", bytes, e)
		}
	}
}

func TestBi3FixedRefused(t *testing.T) {
	for _, c := range []struct {
		s     string
		bytes int
		e     api.Errno
	}{
		{"", 0, api.ErrArg}, {"abc", 0, api.ErrArg}, {"abc", -1, api.ErrArg}, {"abcdefghi", 9, api.ErrArg},
		{"abc", 9, api.ErrArg}, {"abc", maxInt, api.ErrArg}, {"abc", minInt, api.ErrArg},
		{"", 1, api.ErrShort}, {"a", 2, api.ErrShort}, {"\xff\xff\xff\xff\xff\xff\xff", 8, api.ErrShort},
		{"\x00\x00\x00\x00\x00\x00\x00\x80", 8, api.ErrBits}, {"\xff\xff\xff\xff\xff\xff\xff\xff", 8, api.ErrBits},
	} {
		if n, e := bits.Fixed(c.s, c.bytes); n != 0 || e != c.e {
			t.Errorf("Fixed(%q, %d): %d %d, want %d", c.s, c.bytes, n, e, c.e)
		}
	}
}

// sequence makes numbers that look like any: tests must be the same each time.
type sequence uint64

func (q *sequence) next(below int) int {
	*q = *q*6364136223846793005 + 1442695040888963407
	return int(uint64(*q)>>11) % below
}

// put is one thing that was written: a number of n bits, or noughts up to a byte's end and bytes.
type put struct {
	x, n  int
	bytes string
}

func somePuts(q *sequence) []put {
	l := make([]put, q.next(40))
	for i := range l {
		if q.next(4) == 0 {
			l[i] = put{n: -1, bytes: strings.Repeat(string([]byte{byte(q.next(256))}), q.next(5))}
			continue
		}
		n := q.next(api.MaxBits + 1)
		l[i] = put{n: n, x: (q.next(1<<31)<<31 | q.next(1<<31)) & (1<<n - 1)}
	}
	return l
}

func writeAll(t *testing.T, l []put) *bits.Writer {
	w := bits.NewWriter()
	for _, p := range l {
		if p.n >= 0 {
			wantErr(t, "Bits", w.Bits(p.x, p.n), api.OK)
			continue
		}
		wantErr(t, "Align", w.Align(), api.OK)
		wantErr(t, "Bytes", w.Bytes(p.bytes), api.OK)
	}
	return w
}

// Bi4: what was written is read as it was.
func TestBi4BitsAndBytes(t *testing.T) {
	q := sequence(1)
	for range 500 {
		l := somePuts(&q)
		w := writeAll(t, l)
		r := bits.NewReader(w.Done())
		for _, p := range l {
			if p.n >= 0 {
				wantBits(t, r, p.n, p.x, api.OK)
				continue
			}
			wantErr(t, "Align", r.Align(), api.OK)
			wantBytes(t, r, len(p.bytes), p.bytes, api.OK)
		}
		wantPlace(t, r, w.Place())
		if rest := len(w.Done())*8 - w.Place(); rest < 0 || rest > 7 {
			t.Errorf("%d bits behind the last one", rest)
		}
	}
}

func TestBi4Numbers(t *testing.T) {
	q := sequence(2)
	for range 5000 {
		x := (q.next(1<<31)<<32 | q.next(1<<32)) >> q.next(63)
		s, e := bits.PutVar(x)
		if n, k, e2 := bits.Var(s); e != api.OK || n != x || k != len(s) || e2 != api.OK {
			t.Errorf("Var of PutVar(%d): %d %d %d %d", x, e, n, k, e2)
		}
		for bytes := 1; bytes <= 8; bytes++ {
			s, e := bits.PutFixed(x, bytes)
			if bytes < 8 && x>>(8*bytes) > 0 {
				wantErr(t, "PutFixed", e, api.ErrArg)
				continue
			}
			if n, e2 := bits.Fixed(s, bytes); e != api.OK || len(s) != bytes || n != x || e2 != api.OK {
				t.Errorf("Fixed of PutFixed(%d, %d): %d %d %d", x, bytes, e, n, e2)
			}
		}
	}
}

// R1: readers that NewReader did not give.
func TestR1Readers(t *testing.T) {
	good := bits.NewReader("abc")
	good.Bits(3)
	copied := *good
	for _, r := range []*bits.Reader{nil, {}, new(bits.Reader), &copied} {
		for _, n := range []int{-1, 0, 1, 58} {
			wantBits(t, r, n, 0, api.ErrArg)
			wantBytes(t, r, n, "", api.ErrArg)
		}
		wantErr(t, "Align", r.Align(), api.ErrArg)
		wantBytes(t, r, 0, "", api.ErrArg)
		wantPlace(t, r, 0)
	}
	wantPlace(t, good, 3)
}

// R1: writers that NewWriter did not give.
func TestR1Writers(t *testing.T) {
	good := bits.NewWriter()
	good.Bytes("ab")
	copied := *good
	for _, w := range []*bits.Writer{nil, {}, new(bits.Writer), &copied} {
		for _, n := range []int{-1, 0, 1, 58} {
			wantErr(t, "Bits", w.Bits(0, n), api.ErrArg)
		}
		wantErr(t, "Align", w.Align(), api.ErrArg)
		wantErr(t, "Bytes", w.Bytes("a"), api.ErrArg)
		wantErr(t, "Bytes", w.Bytes(""), api.ErrArg)
		wantPlace(t, w, 0)
		wantDone(t, w, "")
	}
	wantDone(t, good, "ab")
}

// R1: no call panics, at all arguments.
func TestR1AnyArguments(t *testing.T) {
	numbers := []int{minInt, minInt + 1, -1 << 32, -9, -8, -1, 0, 1, 7, 8, 9, 56, 57, 58, 63, 64, 65, 1 << 31, 1 << 61, 1 << 62, maxInt - 1, maxInt}
	texts := []string{"", "\x00", "\x80", "\xff\xff\xff\xff\xff\xff\xff", "\xff\xff\xff\xff\xff\xff\xff\xff", "\x80\x80\x80\x80\x80\x80\x80\x80\x80\x80"}
	for _, s := range texts {
		bits.Var(s)
		for _, n := range numbers {
			bits.Fixed(s, n)
			for skip := range 9 {
				r := bits.NewReader(s)
				r.Bits(skip)
				r.Bits(n)
				r.Bytes(n)
				r.Align()
				r.Bytes(n)
				if r.Place() < 0 || r.Place() > len(s)*8 {
					t.Errorf("Place %d of %d bytes", r.Place(), len(s))
				}
			}
		}
	}
	for _, x := range numbers {
		bits.PutVar(x)
		for _, n := range numbers {
			bits.PutFixed(x, n)
			bits.NewWriter().Bits(x, n)
		}
	}
}

// R4: readers and writers do not hang on one another.
func TestR4Apart(t *testing.T) {
	a, b := bits.NewReader("ab"), bits.NewReader("ab")
	wantBits(t, a, 5, 1, api.OK)
	wantPlace(t, b, 0)
	wantBytes(t, b, 2, "ab", api.OK)
	wantPlace(t, a, 5)
	v, w := bits.NewWriter(), bits.NewWriter()
	v.Bits(1, 1)
	wantPlace(t, w, 0)
	wantErr(t, "Bytes", w.Bytes("x"), api.OK)
	wantDone(t, v, "\x01")
	wantDone(t, w, "x")
}

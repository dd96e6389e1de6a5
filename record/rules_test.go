package record_test

import (
	"slices"
	"strings"
	"testing"
	"unsafe"

	"postroad/api"
	"postroad/record"
)

// lies tells whether bytes lie in the memory of others.
func lies(part, whole string) bool {
	at := uintptr(unsafe.Pointer(unsafe.StringData(part)))
	from := uintptr(unsafe.Pointer(unsafe.StringData(whole)))
	return part != "" && at >= from && at < from+uintptr(len(whole))
}

// R2: a list that is refused at its end is told no part of.
func TestR2NothingBesideAnError(t *testing.T) {
	good := []api.Record{{Offset: 0, Key: "k", Value: "v"}, {Offset: 1, Key: "k", Value: "v"}}
	if s, e := record.Bytes(append(good, api.Record{Offset: 1}), 0); s != "" || e != api.ErrRecord {
		t.Errorf("%q %d", s, e)
	}
	s := written(good, 0)
	for _, tail := range []string{"\x01\x00\x01", "\x02", "\x02\x00", "\x02\x00\x02"} {
		if l, e := record.Of(s+tail, 0, 3); len(l) != 0 || e != api.ErrRecord {
			t.Error(l, e)
		}
		if l, e := record.Of(s+tail, 0, 2); len(l) != 0 || e != api.ErrRecord {
			t.Error(l, e)
		}
	}
}

// R2: a refused call leaves nothing behind that the next one could tell.
func TestR2NothingChanged(t *testing.T) {
	s := written([]api.Record{{Offset: 7, Key: "k", Value: "v"}}, 5)
	for range 2 {
		checkNot(t, s[:3], 5, 1)
		checkOf(t, s, 5, 1, []api.Record{{Offset: 7, Key: "k", Value: "v"}}, api.OK)
		checkBytes(t, []api.Record{{Offset: 7, Key: "k", Value: "v"}, {}}, 5, "", api.ErrRecord)
		checkBytes(t, []api.Record{{Offset: 7, Key: "k", Value: "v"}}, 5, s, api.OK)
	}
}

// R3: what lies behind a list's end is not read, and nothing of a list is changed.
func TestR3Room(t *testing.T) {
	room := []api.Record{{Offset: 3, Key: "a", Value: "b"}, {Offset: 4, Key: "a", Gone: true}, {Offset: -1, Gone: true, Value: "x"}, {Offset: 4}}
	before := slices.Clone(room)
	checkBytes(t, room[:2], 3, "\x00\x01a\x02b\x01\x01a\x00", api.OK)
	checkBytes(t, room[:0], 3, "", api.OK)
	checkBytes(t, room[:3], 3, "", api.ErrRecord)
	if !slices.Equal(room, before) {
		t.Error(room)
	}
}

// R3: an answer is new memory, whatever it was made of.
func TestR3NewMemory(t *testing.T) {
	l := []api.Record{{Offset: 1, Key: strings.Repeat("k", 60), Value: strings.Repeat("v", 60)}, {Offset: 2, Key: strings.Repeat("k", 60), Gone: true}}
	s := written(l, 0)
	var answers [][]api.Record
	for range 2 {
		got, e := record.Of(s, 0, 2)
		if e != api.OK {
			t.Fatal(e)
		}
		answers = append(answers, got)
	}
	for _, got := range answers {
		for _, r := range got {
			if lies(r.Key, s) || lies(r.Value, s) {
				t.Error("Of answers memory of its argument")
			}
		}
		for _, r := range got[:cap(got)][len(got):] {
			if r != (api.Record{}) {
				t.Error("in the spare room:", r)
			}
		}
	}
	answers[0][0].Key = "other"
	_ = append(answers[0], api.Record{Key: "more"})
	if !slices.Equal(answers[1], l) {
		t.Error("two answers share their memory")
	}
	one, _ := record.Bytes(l, 0)
	two, _ := record.Bytes(l, 0)
	if lies(one, two) || lies(two, one) || lies(one, l[0].Key) || lies(one, l[0].Value) {
		t.Error("Bytes answers memory of another")
	}
}

// R3: nil and the empty list are the same.
func TestR3Empty(t *testing.T) {
	for _, l := range [][]api.Record{nil, {}, make([]api.Record, 0, 9)} {
		checkBytes(t, l, 0, "", api.OK)
		checkBytes(t, l, last, "", api.OK)
		checkBytes(t, l, -1, "", api.ErrRecord)
	}
}

// R4: the same arguments, the same answer, whatever room stands behind them and whatever was called ahead.
func TestR4Same(t *testing.T) {
	l := []api.Record{{Offset: 7, Key: "k", Value: "v"}, {Offset: 9, Key: "k", Gone: true}}
	want, _ := record.Bytes(l, 5)
	for _, same := range [][]api.Record{slices.Clip(slices.Clone(l)), slices.Grow(slices.Clone(l), 99)} {
		checkBytes(t, same, 5, want, api.OK)
		checkBytes(t, same, 8, "", api.ErrRecord)
		checkOf(t, want, 5, 2, l, api.OK)
		checkNot(t, want, 5, 1)
	}
}

package bits

import (
	"strings"
	"testing"
	"unsafe"
)

// lies tells whether bytes lie in the memory of others.
func lies(part, whole string) bool {
	at := uintptr(unsafe.Pointer(unsafe.StringData(part)))
	from := uintptr(unsafe.Pointer(unsafe.StringData(whole)))
	return at >= from && at < from+uintptr(len(whole))
}

// R3: what is handed in is not kept, and an answer is new memory; from outside nobody could tell.
func TestR3NewMemory(t *testing.T) {
	s := strings.Repeat("abcdefgh", 8)
	r := NewReader(s)
	if lies(r.s, s) {
		t.Error("the reader keeps what it was handed")
	}
	got, _ := r.Bytes(32)
	if lies(got, s) || lies(got, r.s) {
		t.Error("Bytes answers memory of another")
	}
	w := NewWriter()
	w.Bytes(s)
	if done := w.Done(); lies(done, unsafe.String(&w.out[0], len(w.out))) || lies(done, s) {
		t.Error("Done answers memory of another")
	}
}

package vdisk

import "bytes"

// file is bytes, the first so many of them synced.
type file struct {
	bytes  []byte
	synced int
}

// keep lets a file have its first size bytes alone, synced.
func (f *file) keep(size int) {
	f.bytes = f.bytes[:size]
	f.synced = size
	// The room of bytes that are gone is given back, or files that were cut could hold many times what the disk has room for.
	if cap(f.bytes) > 2*size {
		f.bytes = bytes.Clone(f.bytes)
	}
}

// crash lets the first n bytes of the tail survive, or as many as there are.
func (f *file) crash(n int) {
	tail := len(f.bytes) - f.synced
	f.keep(f.synced + min(max(n, 0), tail))
}

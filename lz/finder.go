package lz

const (
	// So many of a text's last bytes are plain, and at least so many stand behind a copy's beginning: readers of LZ4
	// that move many bytes at one time lean on it.
	plainEnd = 5
	copyEnd  = 12

	// So many places are tried for a copy. Where a text of at most 100 bytes comes again and again, the place that
	// lies one of its times back is always among them, and a copy from there goes on to the end.
	mostTries = 100

	// none stands for a place that is not there.
	none = -1
)

// four are the bytes by which a copy's beginning is found.
type four [shortestCopy]byte

// finder finds copies in a text, at the places that it has met. It is asked for those alone that have four bytes.
type finder struct {
	text   string
	newest map[four]int32 // the last place where four bytes were met
	older  []int32        // of each place the last one ahead of it where its four bytes were met
}

func (f *finder) fourAt(at int) four {
	return four{f.text[at], f.text[at+1], f.text[at+2], f.text[at+3]}
}

// meet lets copies begin at a place.
func (f *finder) meet(at int) {
	key := f.fourAt(at)
	f.older[at] = f.lastMet(key)
	f.newest[key] = int32(at)
}

func (f *finder) lastMet(key four) int32 {
	if place, ok := f.newest[key]; ok {
		return place
	}
	return none
}

// copyAt is the longest copy that tells what stands at a place, of several the nearest; one of no length, if there is
// none.
func (f *finder) copyAt(at int) (length, distance int) {
	most := len(f.text) - plainEnd - at
	place := int(f.lastMet(f.fourAt(at)))
	for tries := 0; place != none && at-place <= farthest && tries < mostTries; tries++ {
		if n := f.alike(place, at, length, most); n > length {
			length, distance = n, at-place
		}
		if length == most {
			break
		}
		place = int(f.older[place])
	}
	return length, distance
}

// alike is how many bytes, at most so many, are the same at two places; it need not be told where it is not above a
// floor, that lies below most.
func (f *finder) alike(a, b, floor, most int) int {
	if f.text[a+floor] != f.text[b+floor] {
		return 0
	}
	n := 0
	for n < most && f.text[a+n] == f.text[b+n] {
		n++
	}
	return n
}

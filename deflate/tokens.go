package deflate

const (
	shortestCopy = 3
	longestCopy  = 258
	farthest     = 1 << 15 // how far back a copy may begin

	// From farther than this, a copy of three bytes takes about as many bits as they do themselves.
	nearby = 1 << 12
	// So long a copy is taken at once; a shorter one only if the next byte begins none that is longer.
	longEnough = 64
	// So many places are tried for a copy, since three bytes may stand nearly everywhere in a text.
	mostTries = 64
)

// token is a copy, or a plain byte if the distance is 0.
type token struct {
	plain            byte
	length, distance uint16
}

// three are the bytes by which a copy's beginning is found.
type three [shortestCopy]byte

// none stands for a place that is not there.
const none = -1

// finder finds copies in a text, at the places that it has met.
type finder struct {
	text   string
	newest map[three]int32 // the last place where three bytes were met
	older  []int32         // of each place the last one ahead of it where its three bytes were met
}

// tokensOf are tokens that tell a text.
func tokensOf(text string) []token {
	f := finder{text, map[three]int32{}, make([]int32, len(text))}
	var tokens []token
	here := f.copyAt(0)
	for at := 0; at < len(text); {
		f.meet(at)
		var next token
		if here.length < longEnough {
			next = f.copyAt(at + 1)
		}
		if here.length == 0 || next.length > here.length {
			tokens = append(tokens, token{plain: text[at]})
			here = next
			at++
			continue
		}
		tokens = append(tokens, here)
		end := at + int(here.length)
		for at++; at < end; at++ {
			f.meet(at)
		}
		here = f.copyAt(at)
	}
	return tokens
}

// plainBytes are how many bytes tokens tell.
func plainBytes(tokens []token) int {
	n := 0
	for _, t := range tokens {
		n += max(1, int(t.length))
	}
	return n
}

// threeAt are the three bytes at a place, if there are so many.
func (f *finder) threeAt(at int) (three, bool) {
	if at+shortestCopy > len(f.text) {
		return three{}, false
	}
	return three{f.text[at], f.text[at+1], f.text[at+2]}, true
}

// meet lets copies begin at a place.
func (f *finder) meet(at int) {
	key, ok := f.threeAt(at)
	if !ok {
		return
	}
	f.older[at] = f.lastMet(key)
	f.newest[key] = int32(at)
}

func (f *finder) lastMet(key three) int32 {
	if place, ok := f.newest[key]; ok {
		return place
	}
	return none
}

// copyAt is the longest copy that tells what stands at a place, of several the nearest; one of no length, if none is
// worth it.
func (f *finder) copyAt(at int) token {
	key, ok := f.threeAt(at)
	if !ok {
		return token{}
	}
	most := min(longestCopy, len(f.text)-at)
	length, distance := 0, 0
	place := int(f.lastMet(key))
	for tries := 0; place != none && at-place <= farthest && tries < mostTries; tries++ {
		if n := f.alike(place, at, length, most); n > length {
			length, distance = n, at-place
		}
		if length == most {
			break
		}
		place = int(f.older[place])
	}
	if length == shortestCopy && distance > nearby {
		return token{}
	}
	return token{length: uint16(length), distance: uint16(distance)}
}

// alike is how many bytes, at most so many, are the same at two places; it need not be told where it is not above a
// floor, that lies below most.
func (f *finder) alike(a, b, floor, most int) int {
	if f.text[a+floor] != f.text[b+floor] {
		return 0
	}
	n := 0
	for n < most && f.text[a+n] == f.text[b+n] {
		n++
	}
	return n
}

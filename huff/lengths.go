package huff

import (
	"cmp"
	"slices"

	"postroad/api"
)

// pack is symbols that are put together, some of them more than once.
type pack struct {
	weight   int    // how often its symbols come, in all
	lengthen func() // lets each of its symbols' words be a bit longer
}

// Lengths are the best code's lengths for how often symbols come, none above a limit.
func Lengths(freqs []int, most int) ([]int, api.Errno) {
	if len(freqs) > api.MaxSymbols || !areFreqs(freqs) || most < 1 || most > api.MaxLen {
		return nil, api.ErrArg
	}
	lens := make([]int, len(freqs))
	best := singlePacks(freqs, lens)
	if len(best) > 1<<most {
		return nil, api.ErrArg
	}
	// One that comes alone has a word all the same, though no code of one word is whole.
	if len(best) > 1 {
		best = bestPacks(best, most)
	}
	for _, p := range best {
		p.lengthen()
	}
	return lens, api.OK
}

// singlePacks are packs of one symbol each, of those that come, the rarest first.
func singlePacks(freqs, lens []int) []pack {
	var packs []pack
	for symbol, f := range freqs {
		if f > 0 {
			packs = append(packs, pack{f, func() { lens[symbol]++ }})
		}
	}
	slices.SortStableFunc(packs, func(a, b pack) int { return cmp.Compare(a.weight, b.weight) })
	return packs
}

// bestPacks are the packs that lengthen words from nothing to the best code's, by package-merge. A bit of a word at
// the depth d has a share of 1 / 2^d: two packs of one depth put together have that of a pack one depth higher, where
// they vie with the symbols' own bits. Of n symbols the 2n - 2 lightest packs at the depth 1 make a whole code.
func bestPacks(singles []pack, most int) []pack {
	packs := singles
	for range most - 1 {
		packs = merge(singles, pairs(packs))
	}
	return packs[:2*len(singles)-2]
}

// pairs are packs by twos, the lightest first; an odd one, the heaviest, is left out.
func pairs(packs []pack) []pack {
	var out []pack
	for ; len(packs) >= 2; packs = packs[2:] {
		out = append(out, together(packs[0], packs[1]))
	}
	return out
}

func together(a, b pack) pack {
	return pack{a.weight + b.weight, func() {
		a.lengthen()
		b.lengthen()
	}}
}

// merge is two lists of packs as one, the lightest first as in both.
func merge(a, b []pack) []pack {
	out := make([]pack, 0, len(a)+len(b))
	for len(a) > 0 && len(b) > 0 {
		if b[0].weight < a[0].weight {
			out, b = append(out, b[0]), b[1:]
		} else {
			out, a = append(out, a[0]), a[1:]
		}
	}
	return append(append(out, a...), b...)
}

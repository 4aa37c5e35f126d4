package plain

import (
	"math/bits"
	"slices"
	"sort"

	"hodman/api"
)

// beginning is where a block begins: each is one block's, so the block is found by it.
type beginning struct{ at int }

// beginnings tells of each beginning which block of l has it.
func beginnings(l []api.Block) map[beginning]int {
	out := make(map[beginning]int, len(l))
	for i, b := range l {
		out[beginning{b.At}] = i
	}
	return out
}

// lowest tells the least multiple of charge from which on charge bytes lie in no block of l, and end at h or below; no: there is none.
func lowest(l []api.Block, charge, h int) (int, bool) {
	// A charge is a power of two, so a shift tells of a byte which multiple it lies in; multiples are held against one another, since their number cannot run over.
	shift := bits.TrailingZeros(uint(charge))
	place := 0
	for _, b := range l {
		first, last := b.At>>shift, (b.At+b.Charge-1)>>shift
		// The blocks rise: what begins behind this place leaves it free, and so do all that follow.
		if first > place {
			break
		}
		place = max(place, last+1)
	}
	if place >= h>>shift {
		return 0, false
	}
	return place << shift, true
}

// with tells m with b among its blocks, and what they come to.
func with(m api.Model, b api.Block) api.Model {
	i := sort.Search(len(m.Blocks), func(i int) bool { return m.Blocks[i].At > b.At })
	m.Blocks = slices.Concat(m.Blocks[:i], []api.Block{b}, m.Blocks[i:])
	m.Live += b.Charge
	m.Peak = max(m.Peak, m.Live)
	m.Mark = max(m.Mark, b.At+b.Charge)
	return m
}

// without tells m without its block i, and what is live then.
func without(m api.Model, i int) api.Model {
	m.Live -= m.Blocks[i].Charge
	m.Blocks = slices.Concat(m.Blocks[:i], m.Blocks[i+1:])
	return m
}

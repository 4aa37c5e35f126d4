package plain

import (
	"testing"

	"hodman/api"
)

// P17.2: EPtr ahead of admit's errors, and these ahead of ECommit.
func TestReallocErrors(t *testing.T) {
	m := does(t, begin(t, small(4)), step{malloc(8), at(0)}, step{malloc(4), at(8)}, step{malloc(2), at(12)})
	for _, p := range []int{-1, 1, 4, 7, 10, 13, 14, 16, 31, 32, least, greatest} {
		does(t, m, step{anew(p, 1), refused(api.EPtr)}, step{anew(p, -1), refused(api.EPtr)}, step{anew(p, 9), refused(api.EPtr)}, step{anew(p, 8), refused(api.EPtr)})
	}
	does(t, m, step{anew(0, -1), refused(api.ESize)}, step{anew(0, 9), refused(api.ESize)}, step{anew(8, least), refused(api.ESize)}, step{anew(8, greatest), refused(api.ESize)}, step{anew(8, 8), refused(api.ELimit)}, step{anew(12, 5), refused(api.ELimit)}, step{anew(12, 3), at(12)}, step{ask, told(16, 16, 16, 4)}, step{anew(12, 5), refused(api.ELimit)})
}

// P17.2: a Realloc at the same place: of as much, of less and of more; its bytes stay.
func TestReallocInPlace(t *testing.T) {
	m := does(t, begin(t, small(8)), step{malloc(4), at(0)}, step{store(0, 0, 1), done}, step{store(0, 3, 4), done})
	same := does(t, m, step{anew(0, 3), at(0)}, step{ask, told(4, 4, 4, 1)})
	hasBlocks(t, same, api.Block{At: 0, Charge: 4, Asked: 3})
	hasMem(t, same, 0, 1, 208, 215, 4)
	less := does(t, m, step{anew(0, 0), at(0)}, step{use(0), of(2)}, step{ask, told(2, 4, 4, 1)})
	hasBlocks(t, less, api.Block{At: 0, Charge: 2, Asked: 0})
	hasMem(t, less, 0, 1, 208, 215, 4)
	// behind what was there the fresh page is filled
	more := does(t, m, step{anew(0, 5), at(0)}, step{use(0), of(8)}, step{ask, told(8, 8, 8, 2)})
	hasMem(t, more, 0, 1, 208, 215, 4, 232, 239, 246, 253, 0)
	hasBlocks(t, more, api.Block{At: 0, Charge: 8, Asked: 5})
}

// P17.2: a Realloc at a lower place, with as many bytes as the lesser one is charged; what it left is as it was.
func TestReallocLower(t *testing.T) {
	m := does(t, begin(t, small(8)), step{malloc(4), at(0)}, step{malloc(8), at(8)}, step{store(8, 0, 1), done}, step{store(8, 7, 8), done})
	// 7, 14, 21, 28 and 38, 45, 52, 59 but for what was stored; page 1 is fresh
	m = does(t, m, step{anew(8, 3), at(4)}, step{ask, told(8, 12, 16, 4)}, step{use(4), of(4)}, step{use(8), refused(api.EPtr)})
	hasMem(t, m, 0, 201, 208, 215, 222, 1, 14, 21, 28, 1, 14, 21, 28, 38, 45, 52, 8)
	hasBlocks(t, m, api.Block{At: 0, Charge: 4, Asked: 4}, api.Block{At: 4, Charge: 4, Asked: 3})
	m = does(t, m, step{anew(4, 8), at(8)}, step{free(0), done}, step{anew(8, 7), at(0)}, step{ask, told(8, 12, 16, 4)})
	hasMem(t, m, 0, 1, 14, 21, 28, 38, 45, 52, 8, 1, 14, 21, 28, 38, 45, 52, 8)
}

// P17.2: a Realloc at a higher place: all that the block held, and behind it what stood there.
func TestReallocHigher(t *testing.T) {
	m := does(t, begin(t, small(8)), step{malloc(2), at(0)}, step{malloc(2), at(2)}, step{store(2, 0, 1), done}, step{store(2, 1, 2), done})
	m = does(t, m, step{anew(2, 5), at(8)}, step{ask, told(10, 10, 16, 3)}, step{load(8, 0), is(1)}, step{load(8, 1), is(2)}, step{load(8, 2), is(21)}, step{load(8, 7), is(59)}, step{use(2), refused(api.EPtr)})
	hasMem(t, m, 0, 201, 208, 1, 2, 0, 0, 0, 0, 1, 2, 21, 28, 38, 45, 52, 59)
	hasPages(t, m, 0, 2, 3)
	hasBlocks(t, m, api.Block{At: 0, Charge: 2, Asked: 2}, api.Block{At: 8, Charge: 8, Asked: 5})
}

// P17.2: a Realloc over where the block lay: at a higher one than its own beginning, and at a lower one.
func TestReallocOver(t *testing.T) {
	m := does(t, begin(t, small(8)), step{malloc(2), at(0)}, step{malloc(2), at(2)}, step{malloc(4), at(4)}, step{store(4, 0, 1), done}, step{store(4, 3, 4), done}, step{free(0), done}, step{free(2), done})
	// from 4 to 0, of 8: it lies over where it lay
	over := does(t, m, step{anew(4, 8), at(0)}, step{ask, told(8, 8, 8, 2)})
	hasMem(t, over, 0, 1, 239, 246, 4, 1, 239, 246, 4)
	hasBlocks(t, over, api.Block{At: 0, Charge: 8, Asked: 8})
	// A block that is no multiple of its size is none that Do tells: so it may lie half over where it lay.
	m = begin(t, fine(4))
	m.Blocks, m.Live, m.Peak = []api.Block{{At: 2, Charge: 4, Asked: 4}}, 4, 4
	m.On[0], m.On[1] = true, true
	copy(m.Mem, "abcdefghij")
	hasMem(t, does(t, m, step{anew(2, 4), at(0)}), 0, []byte("cdefefghij")...)
	m.Blocks = []api.Block{{At: 0, Charge: 1}, {At: 2, Charge: 4, Asked: 4}}
	hasMem(t, does(t, m, step{anew(2, 3), at(4)}), 0, []byte("abcdcdefij")...)
	m.Blocks[1].Charge = 8
	hasMem(t, does(t, m, step{anew(2, 3), at(4)}), 0, []byte("abcdcdefij")...)
}

// P17.2: what is moved is what stood there ahead of all, also where a page there goes; what Mark, Peak and Live come to behind it.
func TestReallocFromPageThatGoes(t *testing.T) {
	m := does(t, begin(t, small(2)), step{malloc(4), at(0)}, step{malloc(4), at(4)}, step{store(4, 0, 1), done}, step{store(4, 3, 4), done}, step{free(0), done})
	// the place takes pages 0 and 1, both of which are there
	hasPages(t, does(t, m, step{anew(4, 8), at(0)}), 0, 1)
	m = does(t, begin(t, small(3)), step{malloc(2), at(0)}, step{malloc(4), at(4)}, step{store(4, 0, 1), done}, step{store(4, 3, 4), done}, step{anew(4, 8), at(8)}, step{ask, told(10, 10, 16, 3)})
	hasPages(t, m, 0, 2, 3)
	hasMem(t, m, 8, 1, 239, 246, 4, 38, 45, 52, 59, 0)
	hasMem(t, m, 4, 1, 239, 246, 4)
	m = does(t, m, step{malloc(4), refused(api.ECommit)}, step{anew(8, 4), at(4)}, step{ask, told(6, 10, 16, 2)})
	hasPages(t, m, 0, 1)
	hasMem(t, m, 0, 201, 208, 215, 222, 1, 239, 246, 4, 1)
}

// P17.2: what is moved is what stood there ahead of all, also where a page there is fresh (which is none of what Do tells, since all pages that are met are there).
func TestReallocFromFreshPage(t *testing.T) {
	m := begin(t, fine(4))
	copy(m.Mem, "abcdefghij")
	m.Blocks, m.Live, m.Peak = []api.Block{{At: 0, Charge: 2, Asked: 2}, {At: 2, Charge: 1, Asked: 1}}, 3, 3
	got := does(t, m, step{anew(0, 1), at(0)}, step{load(0, 0), is('a')})
	// of page 0 6, 13, 20, 27: all but what was moved is filled
	hasMem(t, got, 0, 'a', 13, 20, 27, 'e')
	m.Blocks = []api.Block{{At: 2, Charge: 2, Asked: 1}}
	hasMem(t, does(t, m, step{anew(2, 2), at(0)}), 0, 'c', 'd', 20, 27, 'e')
	m.Blocks = []api.Block{{At: 0, Charge: 4, Asked: 4}}
	hasMem(t, does(t, m, step{anew(0, 4), at(0)}), 0, 'a', 'b', 'c', 'd', 'e')
	// and where only the page that it goes to is
	m.Blocks, m.On[0] = []api.Block{{At: 0, Charge: 1}, {At: 1, Charge: 1}}, true
	hasMem(t, does(t, m, step{anew(1, 4), at(4)}), 0, 'a', 'b', 'c', 'd', 'b', 44, 51, 58, 'i')
}

// P17.2: ECommit: it is as it was, and a Realloc of less is let in where one of more is not.
func TestReallocRefused(t *testing.T) {
	m := does(t, begin(t, small(2)), step{malloc(2), at(0)}, step{malloc(4), at(4)}, step{store(4, 3, 9), done})
	again := does(t, m, step{anew(4, 8), refused(api.ECommit)}, step{load(4, 3), is(9)}, step{use(4), of(4)}, step{ask, told(6, 6, 8, 2)}, step{anew(0, 8), refused(api.ECommit)}, step{anew(4, 2), at(2)}, step{ask, told(4, 6, 8, 2)})
	hasBlocks(t, again, api.Block{At: 0, Charge: 2, Asked: 2}, api.Block{At: 2, Charge: 2, Asked: 2})
	does(t, m, step{free(0), done}, step{anew(4, 8), at(0)}, step{load(0, 3), is(9)})
}

// P17.2: Live, Peak and Mark behind Reallocs; Peak is of what is live behind a call, not within it.
func TestReallocFigures(t *testing.T) {
	does(t, begin(t, small(8)),
		step{malloc(8), at(0)}, step{ask, told(8, 8, 8, 2)}, step{anew(0, 8), at(0)}, step{ask, told(8, 8, 8, 2)}, step{anew(0, 4), at(0)}, step{ask, told(4, 8, 8, 2)},
		step{malloc(8), at(8)}, step{ask, told(12, 12, 16, 4)}, step{anew(8, 4), at(4)}, step{ask, told(8, 12, 16, 4)}, step{anew(0, 8), at(8)}, step{ask, told(12, 12, 16, 4)},
		step{malloc(4), at(0)}, step{ask, told(16, 16, 16, 4)}, step{anew(0, 2), at(0)}, step{anew(4, 2), at(2)}, step{ask, told(12, 16, 16, 4)}, step{anew(8, 1), at(4)}, step{anew(2, 8), at(8)}, step{ask, told(12, 16, 16, 4)})
}

// P17.2: Free: EPtr, also where a block lies, but does not begin; what is freed is freed once.
func TestFree(t *testing.T) {
	m := does(t, begin(t, small(8)), step{malloc(8), at(0)}, step{malloc(4), at(8)})
	for _, p := range []int{-1, 1, 2, 4, 7, 9, 10, 12, 16, 32, least, greatest} {
		does(t, m, step{free(p), refused(api.EPtr)}, step{use(p), refused(api.EPtr)})
	}
	m = does(t, m, step{store(8, 0, 3), done}, step{free(8), done}, step{free(8), refused(api.EPtr)}, step{ask, told(8, 12, 12, 3)})
	hasBlocks(t, m, api.Block{At: 0, Charge: 8, Asked: 8})
	hasMem(t, m, 8, 3, 14)
	m = does(t, m, step{free(0), done}, step{free(0), refused(api.EPtr)}, step{ask, told(0, 12, 12, 3)}, step{use(0), refused(api.EPtr)})
	hasBlocks(t, m)
	hasPages(t, m, 0, 1, 2)
	does(t, begin(t, small(8)), step{free(0), refused(api.EPtr)}, step{use(0), refused(api.EPtr)}, step{load(0, 0), refused(api.EPtr)}, step{store(0, 0, 1), refused(api.EPtr)}, step{anew(0, 1), refused(api.EPtr)})
}

// P17.2: Usable is the charge, whatever was asked for.
func TestUsable(t *testing.T) {
	does(t, begin(t, small(8)), step{malloc(0), at(0)}, step{use(0), of(2)}, step{align(1, 4), at(4)}, step{use(4), of(4)}, step{calloc(5, 1), at(8)}, step{use(8), of(8)}, step{use(2), refused(api.EPtr)}, step{anew(8, 3), at(8)}, step{use(8), of(4)}, step{ask, told(10, 14, 16, 4)})
}

// P17.2: Load and Store: EPtr ahead of EBound; the first and the last byte, one ahead and one behind, of each charge.
func TestLoadStore(t *testing.T) {
	m := does(t, begin(t, small(8)), step{malloc(1), at(0)}, step{malloc(3), at(4)}, step{malloc(6), at(8)})
	for _, b := range m.Blocks {
		for _, n := range []int{-1, b.Charge, b.Charge + 1, least, greatest} {
			does(t, m, step{load(b.At, n), refused(api.EBound)}, step{store(b.At, n, 1), refused(api.EBound)}, step{load(b.At+1, n), refused(api.EPtr)}, step{store(b.At+1, n, 1), refused(api.EPtr)})
		}
		for n := range b.Charge {
			got := does(t, m, step{load(b.At, n), is(m.Mem[b.At+n])}, step{store(b.At, n, 250), done}, step{load(b.At, n), is(250)}, step{store(b.At, n, 0), done}, step{load(b.At, n), is(0)})
			want := append([]byte(nil), m.Mem...)
			want[b.At+n] = 0
			hasMem(t, got, 0, want...)
		}
	}
	for _, p := range []int{-1, 1, 2, 5, 9, 15, 16, least, greatest} {
		does(t, m, step{load(p, 0), refused(api.EPtr)}, step{load(p, -1), refused(api.EPtr)}, step{load(p, 8), refused(api.EPtr)}, step{store(p, 0, 1), refused(api.EPtr)}, step{store(p, -1, 1), refused(api.EPtr)})
	}
	does(t, m, step{load(0, 0), is(201)}, step{load(0, 1), is(208)}, step{load(4, 0), is(232)}, step{load(8, 7), is(59)}, step{store(0, 1, 1), done}, step{free(0), done}, step{load(0, 1), refused(api.EPtr)}, step{malloc(2), at(0)}, step{load(0, 1), is(1)})
}

// P17.2: Trim: how many went, and which are left; a second one finds nothing.
func TestTrim(t *testing.T) {
	does(t, begin(t, small(8)), step{trim, of(0)}, step{ask, told(0, 0, 0, 0)})
	m := does(t, begin(t, small(8)), step{malloc(8), at(0)}, step{malloc(4), at(8)}, step{malloc(2), at(12)}, step{malloc(2), at(14)}, step{trim, of(0)}, step{free(0), done}, step{free(12), done}, step{ask, told(6, 16, 16, 4)}, step{trim, of(2)}, step{trim, of(0)}, step{ask, told(6, 16, 16, 2)})
	hasPages(t, m, 2, 3)
	hasBlocks(t, m, api.Block{At: 8, Charge: 4, Asked: 4}, api.Block{At: 14, Charge: 2, Asked: 2})
	hasMem(t, m, 0, 201, 208, 215, 222, 232)
	m = does(t, m, step{free(8), done}, step{free(14), done}, step{trim, of(2)}, step{ask, told(0, 16, 16, 0)}, step{trim, of(0)})
	hasPages(t, m)
}

// P17.2: Figures, also behind calls that were refused.
func TestFigures(t *testing.T) {
	refusedAll := []step{
		{malloc(9), refused(api.ESize)}, {malloc(-1), refused(api.ESize)}, {align(1, 3), refused(api.EAlign)}, {calloc(-1, 1), refused(api.EArg)}, {anew(1, 1), refused(api.EPtr)}, {anew(0, 9), refused(api.ESize)},
		{free(1), refused(api.EPtr)}, {use(1), refused(api.EPtr)}, {load(1, 0), refused(api.EPtr)}, {store(1, 0, 1), refused(api.EPtr)}, {load(0, -1), refused(api.EBound)}, {store(0, 8, 1), refused(api.EBound)}, {api.Op{}, refused(api.EArg)},
	}
	m := does(t, begin(t, small(3)), step{malloc(8), at(0)}, step{ask, told(8, 8, 8, 2)}, step{malloc(8), refused(api.ECommit)}, step{ask, told(8, 8, 8, 2)})
	m = does(t, m, refusedAll...)
	m = does(t, m, step{ask, told(8, 8, 8, 2)}, step{ask, told(8, 8, 8, 2)}, step{malloc(4), at(8)}, step{ask, told(12, 12, 12, 3)}, step{free(0), done}, step{ask, told(4, 12, 12, 3)}, step{malloc(2), at(0)}, step{ask, told(6, 12, 12, 3)})
	m = does(t, m, step{anew(8, 8), at(8)}, step{ask, told(10, 12, 16, 3)}, step{free(8), done}, step{free(0), done}, step{ask, told(0, 12, 16, 3)})
	if m.Live != 0 || m.Peak != 12 || m.Mark != 16 {
		t.Errorf("%+v", m)
	}
}

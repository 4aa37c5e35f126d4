package heap

import (
	"slices"
	"testing"

	"hodman/api"
	"hodman/conf"
)

const (
	greatest = 1<<63 - 1
	least    = -1 << 63
)

// small is of blocks of 2, 4 and 8, 16 live, pages of 4, 32 bytes in all.
func small(budget int) api.Raw {
	return api.Raw{Granule: 2, Largest: 8, Limit: 16, Page: 4, Budget: budget, Seed: 200}
}

// fine is of blocks of 1, 2 and 4, 8 live, pages of 4, 16 bytes in all.
func fine(budget int) api.Raw {
	return api.Raw{Granule: 1, Largest: 4, Limit: 8, Page: 4, Budget: budget, Seed: 5}
}

func malloc(s int) api.Op { return api.Op{Kind: api.Malloc, S: s} }

func calloc(n, s int) api.Op { return api.Op{Kind: api.Calloc, N: n, S: s} }

func align(s, a int) api.Op { return api.Op{Kind: api.Aligned, S: s, A: a} }

func anew(p, s int) api.Op { return api.Op{Kind: api.Realloc, P: p, S: s} }

func free(p int) api.Op { return api.Op{Kind: api.Free, P: p} }

func use(p int) api.Op { return api.Op{Kind: api.Usable, P: p} }

func load(p, n int) api.Op { return api.Op{Kind: api.Load, P: p, N: n} }

func store(p, n int, b byte) api.Op { return api.Op{Kind: api.Store, P: p, N: n, B: b} }

var (
	trim = api.Op{Kind: api.Trim}
	ask  = api.Op{Kind: api.Figures}
)

func at(n int) api.Ans { return api.Ans{At: n} }

func of(n int) api.Ans { return api.Ans{N: n} }

func is(b byte) api.Ans { return api.Ans{Byte: b} }

func refused(e api.Errno) api.Ans { return api.Ans{Err: e} }

func told(live, peak, mark, pages int) api.Ans {
	return api.Ans{Live: live, Peak: peak, Mark: mark, Pages: pages}
}

// done is what stores, frees and trims of nothing are told.
var done api.Ans

type step struct {
	o    api.Op
	want api.Ans
}

func begin(t *testing.T, r api.Raw) *Heap {
	t.Helper()
	h, e := New(r)
	if e != api.OK || h == nil {
		t.Fatalf("%+v: %d", r, e)
	}
	return h
}

// does does the calls, and asks what each is told.
func does(t *testing.T, h *Heap, l ...step) {
	t.Helper()
	for i, s := range l {
		if a := h.Do(s.o); a != s.want {
			t.Fatalf("%d: %+v: %+v, not %+v", i, s.o, a, s.want)
		}
	}
}

// holds asks which blocks are live, and which pages are there.
func holds(t *testing.T, h *Heap, blocks []api.Block, pages ...bool) {
	t.Helper()
	if got := h.Blocks(); !slices.Equal(got, blocks) {
		t.Errorf("%+v, not %+v", got, blocks)
	}
	if got := h.Pages(); !slices.Equal(got, pages) {
		t.Errorf("%v, not %v", got, pages)
	}
}

// The chapter's example.
func TestExample(t *testing.T) {
	does(t, begin(t, fine(4)), step{malloc(1), at(0)})
}

// P18.1 New: nothing is live, no page is there, and there is to be what was asked for.
func TestNew(t *testing.T) {
	h := begin(t, api.Raw{Granule: 3, Largest: 5, Limit: 9, Page: 2, Budget: 7, Seed: 255})
	if want := (api.Conf{G: 4, N: 8, M: 16, L: 1, Page: 4, P: 7, H: 24, Seed: 255}); h.Conf() != want {
		t.Errorf("%+v, not %+v", h.Conf(), want)
	}
	holds(t, h, nil, false, false, false, false, false, false)
	does(t, h, step{ask, told(0, 0, 0, 0)}, step{free(0), refused(api.EPtr)}, step{trim, of(0)})
}

// P18.1 New: what conf.Of does not let in is told its error, and there is no heap.
func TestNewRefused(t *testing.T) {
	for _, r := range []api.Raw{
		{}, {Granule: 0, Largest: 1, Limit: 1, Page: 1}, {Granule: 1, Largest: 0, Limit: 1, Page: 1}, {Granule: 1, Largest: 1, Limit: 0, Page: 1}, {Granule: 1, Largest: 1, Limit: 1, Page: 0},
		{Granule: 1, Largest: 1, Limit: 1, Page: 1, Budget: -1}, {Granule: 1, Largest: 1, Limit: 1, Page: 1, Budget: api.MaxHeap + 1}, {Granule: 1, Largest: 1, Limit: 1, Page: 1, Seed: 256}, {Granule: 1, Largest: 1, Limit: 1, Page: 1, Seed: -1},
		{Granule: 1, Largest: 2, Limit: api.MaxHeap, Page: 1}, {Granule: greatest, Largest: 1, Limit: 1, Page: 1}, {Granule: 1, Largest: least, Limit: 1, Page: 1},
	} {
		if h, e := New(r); h != nil || e != api.EConfig {
			t.Errorf("%+v: %v, %d", r, h, e)
		}
	}
}

// P18.1: who is let in lies at the lowest place: below others, between them, behind them, at the end of H.
func TestPlaces(t *testing.T) {
	h := begin(t, small(8))
	does(t, h,
		step{malloc(2), at(0)}, step{malloc(3), at(4)}, step{malloc(1), at(2)}, step{malloc(5), at(8)}, step{ask, told(16, 16, 16, 4)},
		step{free(0), done}, step{free(8), done}, step{malloc(4), at(8)}, step{malloc(0), at(0)}, step{malloc(4), at(12)}, step{malloc(1), refused(api.ELimit)},
		step{free(2), done}, step{free(4), done}, step{free(12), done}, step{free(0), done}, step{align(3, 4), at(0)}, step{align(1, 8), at(16)}, step{ask, told(16, 16, 24, 6)},
	)
	holds(t, h, []api.Block{{At: 0, Charge: 4, Asked: 3}, {At: 8, Charge: 4, Asked: 4}, {At: 16, Charge: 8, Asked: 1}}, true, true, true, true, true, true, false, false)
	// Beside the lowest four of 2 each the next class goes up to 24, and beside two of these the greatest one to the end.
	h = begin(t, small(8))
	for i := range 8 {
		does(t, h, step{malloc(2), at(2 * i)})
	}
	for i := range 4 {
		does(t, h, step{free(4*i + 2), done})
	}
	does(t, h, step{malloc(4), at(16)}, step{malloc(4), at(20)}, step{free(4), done}, step{free(12), done}, step{free(16), done}, step{malloc(8), at(24)}, step{ask, told(16, 16, 32, 8)})
	holds(t, h, []api.Block{{At: 0, Charge: 2, Asked: 2}, {At: 8, Charge: 2, Asked: 2}, {At: 20, Charge: 4, Asked: 4}, {At: 24, Charge: 8, Asked: 8}}, true, true, true, true, true, true, true, true)
}

// P18.1: who is not let in is told the first error there is, and all is as it was.
func TestNotLetIn(t *testing.T) {
	h := begin(t, small(1))
	does(t, h,
		step{malloc(9), refused(api.ESize)}, step{malloc(-1), refused(api.ESize)}, step{align(9, 3), refused(api.EAlign)}, step{align(1, 16), refused(api.EAlign)}, step{align(1, 0), refused(api.EAlign)}, step{align(9, 8), refused(api.ESize)},
		step{calloc(-1, 9), refused(api.EArg)}, step{calloc(3, -1), refused(api.EArg)}, step{calloc(3, 3), refused(api.ESize)}, step{calloc(greatest, greatest), refused(api.ESize)},
		step{malloc(8), refused(api.ECommit)}, step{ask, told(0, 0, 0, 0)},
		step{malloc(4), at(0)}, step{malloc(1), refused(api.ECommit)}, step{calloc(1, 1), refused(api.ECommit)}, step{align(1, 2), refused(api.ECommit)}, step{anew(0, 5), refused(api.ECommit)}, step{anew(0, 9), refused(api.ESize)}, step{anew(2, 9), refused(api.EPtr)},
		step{use(0), of(4)}, step{ask, told(4, 4, 4, 1)},
	)
	holds(t, h, []api.Block{{At: 0, Charge: 4, Asked: 4}}, true, false, false, false, false, false, false, false)
	none := begin(t, small(0))
	does(t, none, step{malloc(0), refused(api.ECommit)}, step{calloc(0, 0), refused(api.ECommit)}, step{ask, told(0, 0, 0, 0)}, step{trim, of(0)})
}

// P18.1: pages go where there would be too many, and by Trim, if no block lies in them; a page that two blocks meet stays until both went.
func TestPagesGo(t *testing.T) {
	h := begin(t, small(3))
	does(t, h, step{malloc(2), at(0)}, step{malloc(2), at(2)}, step{malloc(4), at(4)}, step{malloc(4), at(8)}, step{malloc(4), refused(api.ECommit)}, step{free(4), done}, step{free(0), done}, step{ask, told(6, 12, 12, 3)})
	holds(t, h, []api.Block{{At: 2, Charge: 2, Asked: 2}, {At: 8, Charge: 4, Asked: 4}}, true, true, true, false, false, false, false, false)
	does(t, h, step{trim, of(1)}, step{trim, of(0)}, step{malloc(4), at(4)}, step{free(4), done}, step{free(8), done}, step{malloc(8), at(8)}, step{ask, told(10, 12, 16, 3)})
	holds(t, h, []api.Block{{At: 2, Charge: 2, Asked: 2}, {At: 8, Charge: 8, Asked: 8}}, true, false, true, true, false, false, false, false)
	does(t, h, step{free(8), done}, step{free(2), done}, step{trim, of(3)}, step{ask, told(0, 12, 16, 0)})
}

// P18.1: what is fresh is filled, what is Calloc's is 0, the rest stands as it was.
func TestBytes(t *testing.T) {
	h := begin(t, fine(2))
	does(t, h,
		step{malloc(4), at(0)}, step{load(0, 0), is(6)}, step{load(0, 3), is(27)}, step{malloc(1), at(4)}, step{load(4, 0), is(37)},
		step{store(0, 1, 99), done}, step{load(0, 1), is(99)}, step{load(0, 2), is(20)},
		step{free(0), done}, step{calloc(2, 1), at(0)}, step{load(0, 0), is(0)}, step{load(0, 1), is(0)}, step{malloc(2), at(2)}, step{load(2, 0), is(20)},
		step{free(4), done}, step{trim, of(1)}, step{calloc(1, 3), at(4)}, step{load(4, 2), is(0)}, step{load(4, 3), is(0)},
		step{free(4), done}, step{malloc(4), at(4)}, step{load(4, 3), is(0)}, step{free(4), done}, step{trim, of(1)}, step{malloc(1), at(4)}, step{load(4, 0), is(37)},
	)
}

// P18.1 Realloc: to where it lay, lower, higher, over where it lay, as if it were not live.
func TestRealloc(t *testing.T) {
	h := begin(t, fine(4))
	does(t, h,
		step{malloc(2), at(0)}, step{store(0, 0, 11), done}, step{store(0, 1, 12), done},
		step{anew(0, 1), at(0)}, step{use(0), of(1)}, step{load(0, 0), is(11)}, step{load(0, 1), refused(api.EBound)},
		step{anew(0, 4), at(0)}, step{load(0, 1), is(12)}, step{load(0, 2), is(20)}, step{store(0, 3, 14), done},
		step{malloc(1), at(4)}, step{free(0), done}, step{anew(4, 2), at(0)}, step{load(0, 0), is(37)}, step{load(0, 1), is(12)},
		step{malloc(4), at(4)}, step{malloc(2), at(2)}, step{anew(2, 3), refused(api.ELimit)}, step{load(2, 1), is(14)}, step{anew(0, 4), refused(api.ELimit)},
		step{free(4), done}, step{anew(0, 3), at(4)}, step{load(4, 0), is(37)}, step{load(4, 1), is(12)}, step{load(4, 2), is(51)}, step{anew(2, 4), at(0)}, step{load(0, 0), is(20)}, step{load(0, 1), is(14)}, step{load(0, 3), is(14)},
		step{anew(2, 1), refused(api.EPtr)}, step{ask, told(8, 8, 8, 2)},
	)
	holds(t, h, []api.Block{{At: 0, Charge: 4, Asked: 4}, {At: 4, Charge: 4, Asked: 3}}, true, true, false, false)
}

// P18.1 Realloc: refused by ECommit all is as it was: the place, the bytes, the pages, the figures; and what comes behind it is told as if it had not been asked for.
func TestReallocRefused(t *testing.T) {
	h := begin(t, small(2))
	does(t, h, step{malloc(2), at(0)}, step{malloc(2), at(2)}, step{malloc(4), at(4)}, step{store(2, 1, 7), done}, step{store(4, 3, 8), done}, step{anew(2, 5), refused(api.ECommit)}, step{anew(4, 8), refused(api.ECommit)}, step{ask, told(8, 8, 8, 2)})
	holds(t, h, []api.Block{{At: 0, Charge: 2, Asked: 2}, {At: 2, Charge: 2, Asked: 2}, {At: 4, Charge: 4, Asked: 4}}, true, true, false, false, false, false, false, false)
	does(t, h,
		step{use(2), of(2)}, step{load(2, 1), is(7)}, step{load(4, 3), is(8)}, step{malloc(1), refused(api.ECommit)},
		step{free(4), done}, step{trim, of(1)}, step{free(2), done}, step{malloc(4), at(4)}, step{malloc(2), at(2)}, step{load(2, 1), is(7)}, step{free(0), done}, step{malloc(2), at(0)},
	)
}

// P18.1: an address that is no beginning, an offset that is none of the block, a Kind that is none.
func TestWrongCalls(t *testing.T) {
	h := begin(t, small(8))
	does(t, h, step{malloc(8), at(0)}, step{malloc(3), at(8)})
	for _, p := range []int{-1, 1, 2, 4, 7, 10, 12, 16, 31, 32, 33, least, greatest} {
		does(t, h, step{free(p), refused(api.EPtr)}, step{use(p), refused(api.EPtr)}, step{load(p, 0), refused(api.EPtr)}, step{load(p, -1), refused(api.EPtr)}, step{store(p, 0, 1), refused(api.EPtr)}, step{store(p, 99, 1), refused(api.EPtr)}, step{anew(p, 1), refused(api.EPtr)}, step{anew(p, -1), refused(api.EPtr)})
	}
	for _, n := range []int{-1, 4, 5, 8, least, greatest} {
		does(t, h, step{load(8, n), refused(api.EBound)}, step{store(8, n, 1), refused(api.EBound)})
	}
	for _, kind := range []int{0, 11, 12, -1, -10, least, greatest} {
		does(t, h, step{api.Op{Kind: kind, S: 1, A: 1, N: 1}, refused(api.EArg)})
	}
	does(t, h, step{load(8, 3), is(28)}, step{ask, told(12, 12, 12, 3)}, step{free(0), done}, step{free(0), refused(api.EPtr)}, step{use(0), refused(api.EPtr)}, step{load(0, 0), refused(api.EPtr)})
	holds(t, h, []api.Block{{At: 8, Charge: 4, Asked: 3}}, true, true, true, false, false, false, false, false)
}

// P18.1 Blocks: asked for is what was asked for, of Calloc the product, behind Realloc the new one.
func TestAsked(t *testing.T) {
	h := begin(t, small(8))
	does(t, h, step{malloc(0), at(0)}, step{calloc(3, 1), at(4)}, step{align(1, 8), at(8)}, step{anew(0, 1), at(0)})
	if l, want := h.Blocks(), []api.Block{{At: 0, Charge: 2, Asked: 1}, {At: 4, Charge: 4, Asked: 3}, {At: 8, Charge: 8, Asked: 1}}; !slices.Equal(l, want) {
		t.Errorf("%+v, not %+v", l, want)
	}
}

// R3: who writes into what Blocks and Pages tell changes no later answer, and no other list that was told.
func TestToldIsNew(t *testing.T) {
	h := begin(t, small(8))
	does(t, h, step{malloc(2), at(0)}, step{malloc(8), at(8)})
	blocks, pages := h.Blocks(), h.Pages()
	for _, l := range [][]api.Block{h.Blocks(), h.Blocks()} {
		l = l[:cap(l)]
		for i := range l {
			l[i] = api.Block{At: 99, Charge: 99, Asked: 99}
		}
	}
	for _, there := range []bool{true, false} {
		l := h.Pages()
		for i := range l[:cap(l)] {
			l[:cap(l)][i] = there
		}
		holds(t, h, blocks, true, false, true, true, false, false, false, false)
	}
	holds(t, h, blocks, pages...)
	holds(t, h, []api.Block{{At: 0, Charge: 2, Asked: 2}, {At: 8, Charge: 8, Asked: 8}}, true, false, true, true, false, false, false, false)
	does(t, h, step{trim, of(0)}, step{use(8), of(8)}, step{malloc(4), at(4)}, step{ask, told(14, 14, 16, 4)})
	// What was told stays what it was, whatever is called.
	does(t, h, step{free(0), done}, step{trim, of(1)})
	if !slices.Equal(blocks, []api.Block{{At: 0, Charge: 2, Asked: 2}, {At: 8, Charge: 8, Asked: 8}}) || !slices.Equal(pages, []bool{true, false, true, true, false, false, false, false}) {
		t.Errorf("%+v, %v", blocks, pages)
	}
}

// P18.1 Copy: either one goes on by itself, in answers, bytes, blocks, pages and figures; a copy of a copy does, too.
func TestCopy(t *testing.T) {
	h := begin(t, small(6))
	does(t, h, step{malloc(4), at(0)}, step{malloc(4), at(4)}, step{store(0, 0, 1), done})
	one := h.Copy()
	two := one.Copy()
	if one == h || two == one || one.Conf() != h.Conf() || two.Conf() != h.Conf() {
		t.Fatal("a copy is none")
	}
	does(t, h, step{store(0, 0, 2), done}, step{free(4), done}, step{trim, of(1)}, step{malloc(8), at(8)})
	does(t, one, step{load(0, 0), is(1)}, step{store(0, 0, 3), done}, step{ask, told(8, 8, 8, 2)}, step{malloc(2), at(8)}, step{anew(4, 8), at(16)})
	does(t, two, step{load(0, 0), is(1)}, step{use(4), of(4)}, step{ask, told(8, 8, 8, 2)}, step{free(0), done}, step{malloc(2), at(0)})
	does(t, h, step{load(0, 0), is(2)}, step{use(4), refused(api.EPtr)}, step{ask, told(12, 12, 16, 3)})
	does(t, one, step{load(0, 0), is(3)}, step{ask, told(14, 14, 24, 5)})
	holds(t, h, []api.Block{{At: 0, Charge: 4, Asked: 4}, {At: 8, Charge: 8, Asked: 8}}, true, false, true, true, false, false, false, false)
	holds(t, one, []api.Block{{At: 0, Charge: 4, Asked: 4}, {At: 8, Charge: 2, Asked: 2}, {At: 16, Charge: 8, Asked: 8}}, true, true, true, false, true, true, false, false)
	holds(t, two, []api.Block{{At: 0, Charge: 2, Asked: 2}, {At: 4, Charge: 4, Asked: 4}}, true, true, false, false, false, false, false, false)
}

// P18.1: of a heap that is nil: EConfig, nothing.
func TestNilHeap(t *testing.T) {
	var h *Heap
	for kind := -1; kind <= 12; kind++ {
		does(t, h, step{api.Op{Kind: kind, S: 1, A: 1, N: 1}, refused(api.EConfig)})
	}
	if h.Conf() != (api.Conf{}) || len(h.Blocks()) != 0 || len(h.Pages()) != 0 || h.Copy() != nil {
		t.Errorf("%+v, %v, %v, %v", h.Conf(), h.Blocks(), h.Pages(), h.Copy())
	}
}

// W2, W3: as many blocks of each class as there is room for, with of each place of the next one all but the lowest freed, drive Mark to Ceil of each class, in the end to H.
func TestJustSoHigh(t *testing.T) {
	for _, r := range []api.Raw{small(8), fine(4), {Granule: 1, Largest: 1, Limit: 1, Page: 1, Budget: 2}, {Granule: 1, Largest: 32, Limit: 64, Page: 4, Budget: 500}, {Granule: 8, Largest: 64, Limit: 100, Page: 32, Budget: 500}, {Granule: 1, Largest: 64, Limit: 8192, Page: 16, Budget: 65536}} {
		h := begin(t, r)
		c := h.Conf()
		for class := range c.L + 1 {
			size := c.G << class
			for _, b := range h.Blocks() {
				if b.At%size != 0 {
					does(t, h, step{free(b.At), done})
				}
			}
			for live := h.Do(ask).Live; live+size <= c.M; live += size {
				if a := h.Do(malloc(size)); a.Err != api.OK {
					t.Fatalf("%+v: %+v", r, a)
				}
			}
			if a := h.Do(ask); a.Mark != conf.Ceil(c, class) || a.Live != c.M {
				t.Errorf("%+v: class %d: %+v", r, class, a)
			}
		}
		if a := h.Do(ask); a.Mark != c.H {
			t.Errorf("%+v: %+v", r, a)
		}
	}
}

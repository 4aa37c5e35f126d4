package heap

import (
	"runtime"
	"testing"

	"hodman/api"
	"hodman/conf"
)

// numbers are as small and as great as an int can be, near powers of two, and near nought.
func numbers() []int {
	out := []int{least, least + 1, greatest - 1, greatest, 3037000500}
	for _, shift := range []int{16, 31, 32, 61, 62} {
		out = append(out, 1<<shift, 1<<shift-1, -1<<shift)
	}
	for i := -3; i <= 9; i++ {
		out = append(out, i)
	}
	return out
}

// everyKind asks for each Kind, with these numbers.
func everyKind(p, s, a, n int) []api.Op {
	var out []api.Op
	for kind := -1; kind <= 12; kind++ {
		out = append(out, api.Op{Kind: kind, P: p, S: s, A: a, N: n, B: 3})
	}
	return out
}

// No call panics, and each ends and is told what plain's is, whatever is asked of a heap that has blocks, pages that are there and such that are not.
func TestWildCalls(t *testing.T) {
	p := both(t, small(6))
	for _, o := range []api.Op{malloc(2), malloc(4), malloc(8), store(4, 1, 9), free(0), anew(8, 4), trim} {
		p.do(t, o)
	}
	for _, v := range numbers() {
		for _, w := range numbers() {
			for _, o := range append(append(everyKind(v, w, 1, w), everyKind(4, 1, v, w)...), everyKind(0, w, w, v)...) {
				then := p.again()
				then.do(t, o)
			}
		}
		then := p.again()
		then.do(t, api.Op{Kind: v, P: v, S: v, A: v, N: v})
	}
	p.alike(t)
}

// No call panics, whatever is asked for; what conf.Of lets in New lets in, and nothing else.
func TestWildNew(t *testing.T) {
	turns := []func(r *api.Raw, v int){
		func(r *api.Raw, v int) { r.Granule = v }, func(r *api.Raw, v int) { r.Largest = v }, func(r *api.Raw, v int) { r.Limit = v }, func(r *api.Raw, v int) { r.Page = v }, func(r *api.Raw, v int) { r.Budget = v }, func(r *api.Raw, v int) { r.Seed = v },
	}
	for i, turn := range turns {
		for _, other := range turns[i:] {
			for _, v := range numbers() {
				for _, w := range numbers() {
					r := small(6)
					turn(&r, v)
					other(&r, w)
					wildNew(t, r)
				}
			}
		}
	}
}

func wildNew(t *testing.T, r api.Raw) {
	t.Helper()
	c, want := conf.Of(r)
	if h, e := New(r); e != want || (h == nil) != (e != api.OK) || h.Conf() != c {
		t.Fatalf("%+v: %v, %d, not %d", r, h, e, want)
	}
}

// No call panics of a heap that is zero: there is nothing, and no room.
func TestZeroHeap(t *testing.T) {
	for _, h := range []*Heap{{}, (&Heap{}).Copy()} {
		does(t, h, step{malloc(0), refused(api.EAlign)}, step{calloc(0, 0), refused(api.EAlign)}, step{align(0, 1), refused(api.EAlign)}, step{anew(0, 0), refused(api.EPtr)}, step{free(0), refused(api.EPtr)}, step{use(0), refused(api.EPtr)}, step{load(0, 0), refused(api.EPtr)}, step{store(0, 0, 1), refused(api.EPtr)}, step{trim, of(0)}, step{ask, told(0, 0, 0, 0)}, step{api.Op{}, refused(api.EArg)})
		if h.Conf() != (api.Conf{}) || len(h.Blocks()) != 0 || len(h.Pages()) != 0 {
			t.Errorf("%+v, %v, %v", h.Conf(), h.Blocks(), h.Pages())
		}
	}
}

// The greatest heaps: each call ends soon, also where a page is one byte and thousands of them are fresh.
func TestGreatest(t *testing.T) {
	for _, r := range []api.Raw{
		{Granule: 1, Largest: 4096, Limit: 8192, Page: 1, Budget: 65536, Seed: 1}, {Granule: 32768, Largest: 32768, Limit: 65536, Page: 1, Budget: 2, Seed: 255}, {Granule: 1, Largest: 1, Limit: 65536, Page: 1, Budget: 65536},
	} {
		h := begin(t, r)
		c := h.Conf()
		n := c.N
		for range 20 {
			does(t, h, step{malloc(n), at(0)}, step{malloc(n), at(n)}, step{ask, told(2*n, 2*n, 2*n, 2*n/c.Page)}, step{load(n, n-1), is(byte(c.Seed + 31*(2*n/c.Page-1) + 7*((2*n-1)%c.Page) + 1))}, step{free(0), done}, step{anew(n, n), at(0)}, step{free(0), done}, step{trim, of(2 * n / c.Page)})
		}
	}
}

// What follows: no call looks at all blocks: what each needs in memory hangs on the heap, not on how many blocks are live.
func TestNotAllBlocks(t *testing.T) {
	r := api.Raw{Granule: 1, Largest: 16, Limit: 8192, Page: 64, Budget: 65536}
	few, many := begin(t, r), begin(t, r)
	does(t, few, step{malloc(1), at(0)})
	for i := range 8000 {
		does(t, many, step{malloc(1), at(i)})
	}
	for _, l := range [][]api.Op{{malloc(1)}, {calloc(3, 4)}, {align(2, 16)}, {anew(0, 1)}, {anew(0, 16), anew(0, 17)}, {use(0)}, {load(0, 0)}, {store(0, 0, 1)}, {trim}, {ask}} {
		one, other := spent(few, l), spent(many, l)
		if other > one+one/4+4096*rounds/16 {
			t.Errorf("%+v: %d bytes with one block, %d with 8000", l, one, other)
		}
	}
}

const rounds = 64

// spent tells how many bytes of memory it takes to do l so many times, what it places being freed each time.
func spent(h *Heap, l []api.Op) uint64 {
	var was, is runtime.MemStats
	runtime.ReadMemStats(&was)
	for range rounds {
		for _, o := range l {
			a := h.Do(o)
			if o.Kind <= api.Aligned && a.Err == api.OK {
				h.Do(free(a.At))
			}
			if o.Kind == api.Realloc && a.Err == api.OK {
				h.Do(anew(a.At, 1))
			}
		}
	}
	runtime.ReadMemStats(&is)
	return is.TotalAlloc - was.TotalAlloc
}

package heap

import (
	"slices"
	"testing"

	"hodman/api"
	"hodman/conf"
	"hodman/plain"
)

// pair is a heap, and what plain tells of the same calls.
type pair struct {
	h *Heap
	m api.Model
}

func both(t *testing.T, r api.Raw) pair {
	t.Helper()
	m, e := plain.New(r)
	if e != api.OK {
		t.Fatalf("%+v: %d", r, e)
	}
	p := pair{begin(t, r), m}
	p.alike(t)
	return p
}

// again is p, with a copy of its heap.
func (p pair) again() pair {
	return pair{p.h.Copy(), p.m}
}

// alike asks if the heap is as plain's model is: what there is to be, blocks, pages, figures, and all bytes of blocks that are live.
func (p pair) alike(t *testing.T) {
	t.Helper()
	if p.h.Conf() != p.m.C || !slices.Equal(p.h.Blocks(), p.m.Blocks) || !slices.Equal(p.h.Pages(), p.m.On) {
		t.Fatalf("%+v: %+v, %v", p.m, p.h.Blocks(), p.h.Pages())
	}
	if _, want := plain.Do(p.m, ask); p.h.Do(ask) != want {
		t.Fatalf("%+v: %+v, not %+v", p.m, p.h.Do(ask), want)
	}
	for _, b := range p.m.Blocks {
		for n := range b.Charge {
			if a := p.h.Do(load(b.At, n)); a != is(p.m.Mem[b.At+n]) {
				t.Fatalf("%+v: byte %d of %d: %+v", p.m, n, b.At, a)
			}
		}
	}
}

// do does o with both, and asks if they are told the same, and are alike behind it.
func (p *pair) do(t *testing.T, o api.Op) api.Ans {
	t.Helper()
	a := p.h.Do(o)
	next, want := plain.Do(p.m, o)
	if a != want {
		t.Fatalf("%+v: %+v: %+v, not %+v", p.m, o, a, want)
	}
	p.m = next
	p.alike(t)
	return a
}

// chance is a row of numbers that is the same each time.
type chance uint64

// below tells a number from 0 to below n.
func (c *chance) below(n int) int {
	*c = *c*6364136223846793005 + 1442695040888963407
	return int(uint64(*c)>>33) % n
}

// op is a call, mostly of a block that is live.
func (c *chance) op(m api.Model) api.Op {
	kinds := []int{api.Malloc, api.Malloc, api.Malloc, api.Calloc, api.Aligned, api.Realloc, api.Realloc, api.Free, api.Free, api.Free, api.Usable, api.Load, api.Load, api.Store, api.Store, api.Store, api.Trim, api.Figures, api.Free, c.below(16) - 2}
	o := api.Op{Kind: kinds[c.below(len(kinds))], P: c.below(m.C.H+2) - 1, B: byte(c.below(256))}
	if len(m.Blocks) > 0 && c.below(8) > 0 {
		o.P = m.Blocks[c.below(len(m.Blocks))].At
	}
	o.S = c.size(m.C)
	o.A = 1 << c.below(m.C.L+4)
	o.N = c.below(m.C.N+2) - 1
	if o.Kind == api.Calloc && c.below(3) > 0 {
		o.N, o.S = c.below(4), c.below(m.C.N/3+2)
	}
	if c.below(50) == 0 {
		wild := []int{least, greatest, -1, 3, 1 << 32}
		o.P, o.S, o.A, o.N = wild[c.below(5)], wild[c.below(5)], wild[c.below(5)], wild[c.below(5)]
	}
	return o
}

// size is mostly one that is charged any class with the like chance, else any up to N and a little beyond.
func (c *chance) size(of api.Conf) int {
	if c.below(4) == 0 {
		return c.below(of.N+3) - 1
	}
	return of.G << c.below(of.L+1) >> c.below(2)
}

// raw is what a heap of up to so many bytes is asked for by; often there are fewer pages than could be met.
func (c *chance) raw(most int) api.Raw {
	for {
		r := api.Raw{Granule: 1 + c.below(5), Largest: 1 + c.below(most/8), Limit: 1 + c.below(most/2), Page: 1 + c.below(16), Seed: c.below(256)}
		if c.below(6) == 0 {
			r.Largest = r.Granule
		}
		if of, e := conf.Of(r); e == api.OK && of.H <= most {
			r.Budget = c.below(of.H/of.Page + 3)
			return r
		}
	}
}

// P18.1: many calls of many heaps are told what plain's are, and all that is told of the heap behind each is plain's; each Kind is told all that it may be, and nothing else.
func TestAsPlain(t *testing.T) {
	mayTell := [][]api.Errno{
		api.Malloc: {api.OK, api.ESize, api.ELimit, api.ECommit}, api.Calloc: {api.OK, api.EArg, api.ESize, api.ELimit, api.ECommit}, api.Aligned: {api.OK, api.EAlign, api.ESize, api.ELimit, api.ECommit},
		api.Realloc: {api.OK, api.EPtr, api.ESize, api.ELimit, api.ECommit}, api.Free: {api.OK, api.EPtr}, api.Usable: {api.OK, api.EPtr}, api.Load: {api.OK, api.EPtr, api.EBound}, api.Store: {api.OK, api.EPtr, api.EBound},
		api.Trim: {api.OK}, api.Figures: {api.OK}, 11: {api.EArg},
	}
	c := chance(18)
	var seen [12][10]int
	for range 400 {
		p := both(t, c.raw(256))
		for range 200 {
			o := c.op(p.m)
			if a := p.do(t, o); o.Kind > 0 && o.Kind < len(seen) {
				seen[o.Kind][a.Err]++
			}
		}
	}
	for kind, may := range mayTell {
		for e, count := range seen[kind] {
			if among := slices.Contains(may, api.Errno(e)); among && count < 20 || !among && count > 0 {
				t.Errorf("kind %d was told %d %d times", kind, e, count)
			}
		}
	}
}

// P18.1: of heaps of thousands of bytes, too.
func TestGreaterAsPlain(t *testing.T) {
	c := chance(4)
	for range 12 {
		p := both(t, c.raw(8192))
		for range 400 {
			p.do(t, c.op(p.m))
		}
	}
}

// P18.1: all rows of up to four calls of the least heaps are told what plain's are, with pages of one block, of two and of all, and with too few of them; each goes on from a copy.
func TestAllRowsOfCalls(t *testing.T) {
	ops := []api.Op{malloc(1), malloc(2), calloc(1, 1), anew(0, 1), anew(0, 2), anew(1, 2), anew(2, 1), free(0), free(1), free(2), store(0, 0, 7), store(2, 1, 8), trim}
	for _, r := range []api.Raw{
		{Granule: 1, Largest: 2, Limit: 4, Page: 1, Budget: 6}, {Granule: 1, Largest: 2, Limit: 4, Page: 1, Budget: 3}, {Granule: 1, Largest: 2, Limit: 4, Page: 1, Budget: 2},
		{Granule: 1, Largest: 2, Limit: 4, Page: 2, Budget: 3}, {Granule: 1, Largest: 2, Limit: 4, Page: 2, Budget: 1}, {Granule: 1, Largest: 1, Limit: 2, Page: 1, Budget: 2},
	} {
		allRows(t, both(t, r), ops, 4)
	}
}

func allRows(t *testing.T, p pair, ops []api.Op, depth int) {
	t.Helper()
	if depth == 0 {
		return
	}
	for _, o := range ops {
		then := p.again()
		then.do(t, o)
		allRows(t, then, ops, depth-1)
	}
	// What its copies were asked is nothing to it.
	p.alike(t)
}

// P18.1 Copy: heaps and copies of them, asked in turn, each go on as plain's models do that are handed on.
func TestCopiesAsPlain(t *testing.T) {
	c := chance(9)
	for range 60 {
		l := []pair{both(t, c.raw(128))}
		for range 150 {
			i := c.below(len(l))
			l[i].do(t, c.op(l[i].m))
			if c.below(10) > 0 {
				continue
			}
			if j := c.below(6); j < len(l) {
				l[j] = l[i].again()
			} else {
				l = append(l, l[i].again())
			}
			for _, p := range l {
				p.alike(t)
			}
		}
	}
}

// W1, W2: EPlace never is; blocks lie apart, each at a multiple of its size, and end at Ceil of their class or ahead of it; all pages that they meet are there, and no more than there may be.
func TestFollows(t *testing.T) {
	c := chance(5)
	for range 100 {
		h := begin(t, c.raw(2048))
		top := 0
		for range 200 {
			a := h.Do(c.op(api.Model{C: h.Conf(), Blocks: h.Blocks()}))
			if a.Err == api.EPlace {
				t.Fatalf("%+v: %+v", h.Conf(), h.Blocks())
			}
			top = max(top, liesWell(t, h))
			if f := h.Do(ask); f.Mark > top || f.Live > h.Conf().M || f.Pages > h.Conf().P || f.Pages*h.Conf().Page > top {
				t.Fatalf("%+v: %+v, %d at most", h.Conf(), f, top)
			}
		}
	}
}

// liesWell asks if the blocks lie as they should, and tells Ceil of the greatest class there is.
func liesWell(t *testing.T, h *Heap) int {
	t.Helper()
	c, pages := h.Conf(), h.Pages()
	end, live, top := 0, 0, 0
	for _, b := range h.Blocks() {
		class, ok := conf.Shift(c, b.Charge)
		if !ok || b.At%b.Charge != 0 || b.At < end || b.Asked < 0 || b.Asked > b.Charge || b.At+b.Charge > conf.Ceil(c, class) {
			t.Fatalf("%+v: %+v", c, b)
		}
		end, live, top = b.At+b.Charge, live+b.Charge, max(top, conf.Ceil(c, class))
		for i := b.At; i < end; i++ {
			if !pages[i/c.Page] {
				t.Fatalf("%+v: %+v: page %d is not there", c, b, i/c.Page)
			}
		}
	}
	if live != h.Do(ask).Live {
		t.Fatalf("%+v: %d live, not %+v", c, live, h.Do(ask))
	}
	return top
}

// W6: what fails, and what is trimmed, changes no other answer, but how many pages are there, and bytes that nobody stored.
func TestNothingBehind(t *testing.T) {
	c := chance(6)
	for range 100 {
		r := c.raw(256)
		r.Budget = 256
		one := begin(t, r)
		two := one.Copy()
		for range 150 {
			o := c.op(api.Model{C: one.Conf(), Blocks: one.Blocks()})
			if o.Kind == api.Load || o.Kind == api.Trim || o.Kind == api.Figures {
				two.Do(trim)
				two.Do(free(-1))
				two.Do(malloc(one.Conf().N + 1))
				continue
			}
			if a, b := one.Do(o), two.Do(o); a != b || !slices.Equal(one.Blocks(), two.Blocks()) {
				t.Fatalf("%+v: %+v: %+v, not %+v", r, o, b, a)
			}
		}
	}
}

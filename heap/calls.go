package heap

import (
	"hodman/admit"
	"hodman/api"
	"hodman/class"
	"hodman/commit"
	"hodman/mem"
	"hodman/pin"
)

// no is what a call is told that is refused.
func no(e api.Errno) api.Ans {
	return api.Ans{Err: e}
}

// aligned places a block of s at a multiple of a.
func (h *Heap) aligned(s, a int) api.Ans {
	charge, e := admit.New(h.conf, h.live, s, a)
	if e != api.OK {
		return no(e)
	}
	return h.placed(charge, s)
}

// cleared places a block of n times s, all of which is 0.
func (h *Heap) cleared(n, s int) api.Ans {
	charge, e := admit.Many(h.conf, h.live, n, s)
	if e != api.OK {
		return no(e)
	}
	// Who is let in has a product.
	asked, _ := class.Product(h.conf, n, s)
	a := h.placed(charge, asked)
	if a.Err == api.OK {
		h.mem, _ = mem.Zero(h.mem, a.At, charge)
	}
	return a
}

// replaced places a block of s as if the one that begins at p were not live, and moves there what that one held.
func (h *Heap) replaced(p, s int) api.Ans {
	old, ok := h.blocks[beginning{p}]
	if !ok {
		return no(api.EPtr)
	}
	charge, e := admit.Anew(h.conf, h.live, old.Charge, s)
	if e != api.OK {
		return no(e)
	}
	was := h.engine
	h.drop(old)
	a := h.placed(charge, s)
	if a.Err != api.OK {
		h.engine = was
		h.put(old)
		return a
	}
	// The pages where it lay were there, so none of them was fresh, and its bytes stand as they did ahead of all.
	h.mem, _ = mem.Move(h.mem, p, a.At, min(old.Charge, charge))
	return a
}

// freed takes the block away that begins at p.
func (h *Heap) freed(p int) api.Ans {
	b, ok := h.blocks[beginning{p}]
	if !ok {
		return no(api.EPtr)
	}
	h.drop(b)
	return api.Ans{}
}

// usable tells how much is charged for the block that begins at p.
func (h *Heap) usable(p int) api.Ans {
	b, ok := h.blocks[beginning{p}]
	if !ok {
		return no(api.EPtr)
	}
	return api.Ans{N: b.Charge}
}

// loaded tells byte n of the block that begins at p.
func (h *Heap) loaded(p, n int) api.Ans {
	if e := h.within(p, n); e != api.OK {
		return no(e)
	}
	b, _ := mem.Get(h.mem, p+n)
	return api.Ans{Byte: b}
}

// stored puts b at byte n of the block that begins at p.
func (h *Heap) stored(p, n int, b byte) api.Ans {
	if e := h.within(p, n); e != api.OK {
		return no(e)
	}
	h.mem, _ = mem.Put(h.mem, p+n, b)
	return api.Ans{}
}

// trimmed lets all pages go that are not met.
func (h *Heap) trimmed() api.Ans {
	on, gone := commit.Trim(h.on, h.met())
	h.on = on
	return api.Ans{N: gone}
}

// figures tells how much is live, how much was at most, how high it went, and how many pages are there.
func (h *Heap) figures() api.Ans {
	return api.Ans{Live: h.live, Peak: h.peak, Mark: h.mark, Pages: pin.Count(h.on)}
}

// within tells why there is no byte n of a block that begins at p; OK: there is.
func (h *Heap) within(p, n int) api.Errno {
	b, ok := h.blocks[beginning{p}]
	if !ok {
		return api.EPtr
	}
	if n < 0 || n >= b.Charge {
		return api.EBound
	}
	return api.OK
}

package heap

import (
	"hodman/api"
	"hodman/class"
	"hodman/commit"
	"hodman/junk"
	"hodman/pin"
	"hodman/place"
)

// placed puts a block of charge at the lowest place; EPlace: there is none; ECommit: too many pages would be met. Beside an error all is as it was.
func (h *Heap) placed(charge, asked int) api.Ans {
	// What is charged is G or more and N at most, so there is such a class.
	k, _ := class.Class(h.conf, charge)
	engine, at, ok := place.Place(h.engine, k)
	if !ok {
		return no(api.EPlace)
	}
	first, behind := pin.Pages(h.conf.Page, at, charge)
	on, fresh, ok := commit.Commit(h.on, h.met(), first, behind, h.conf.P)
	if !ok {
		return no(api.ECommit)
	}
	// Marks that an engine has are gone through by each of its calls, so it is left without: what begins where is asked of the map.
	engine.Side = nil
	h.engine, h.on = engine, on
	h.fill(fresh)
	h.put(api.Block{At: at, Charge: charge, Asked: asked})
	return api.Ans{At: at}
}

// put takes b, where the engine has it, among the blocks that are live.
func (h *Heap) put(b api.Block) {
	h.blocks[beginning{b.At}] = b
	h.meet(b, 1)
	h.live += b.Charge
	h.peak = max(h.peak, h.live)
	h.mark = max(h.mark, b.At+b.Charge)
}

// drop takes b away from the blocks that are live, and from the engine.
func (h *Heap) drop(b api.Block) {
	k, _ := class.Class(h.conf, b.Charge)
	e := h.engine
	e.Side = []api.Mark{{At: b.At, Class: k}}
	h.engine, _, _ = place.Release(e, b.At)
	delete(h.blocks, beginning{b.At})
	h.meet(b, -1)
	h.live -= b.Charge
}

// meet counts b in all pages that it lies in, by as much.
func (h *Heap) meet(b api.Block, by int) {
	first, behind := pin.Pages(h.conf.Page, b.At, b.Charge)
	for i := first; i < behind; i++ {
		h.meets[i] += by
	}
}

// met tells which pages are met.
func (h *Heap) met() []bool {
	out := make([]bool, len(h.meets))
	for i, count := range h.meets {
		out[i] = count > 0
	}
	return out
}

// fill fills these pages, which are fresh.
func (h *Heap) fill(fresh []int) {
	size := h.conf.Page
	for _, page := range fresh {
		// junk.Fill copies all bytes for each page, so what stands in these is written byte by byte.
		these := h.mem[page*size : (page+1)*size]
		for i := range these {
			these[i] = junk.Byte(h.conf.Seed, page, i)
		}
	}
}

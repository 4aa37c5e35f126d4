package plain

import (
	"slices"

	"hodman/admit"
	"hodman/api"
	"hodman/class"
	"hodman/commit"
	"hodman/junk"
	"hodman/mem"
	"hodman/pin"
)

// called is as Do, but shares memory with m.
func called(m api.Model, o api.Op) (api.Model, api.Ans) {
	switch o.Kind {
	case api.Malloc:
		return aligned(m, o.S, 1)
	case api.Calloc:
		return cleared(m, o.N, o.S)
	case api.Aligned:
		return aligned(m, o.S, o.A)
	case api.Realloc:
		return replaced(m, o.P, o.S)
	case api.Free:
		return freed(m, o.P)
	case api.Usable:
		return m, usable(m, o.P)
	case api.Load:
		return m, loaded(m, o.P, o.N)
	case api.Store:
		return stored(m, o.P, o.N, o.B)
	case api.Trim:
		return trimmed(m)
	case api.Figures:
		return m, figures(m)
	}
	return m, no(api.EArg)
}

// no is what a call is told that is refused.
func no(e api.Errno) api.Ans {
	return api.Ans{Err: e}
}

// aligned places a block of s at a multiple of a.
func aligned(m api.Model, s, a int) (api.Model, api.Ans) {
	charge, e := admit.New(m.C, m.Live, s, a)
	if e != api.OK {
		return m, no(e)
	}
	return placed(m, charge, s)
}

// cleared places a block of n times s, all of which is 0.
func cleared(m api.Model, n, s int) (api.Model, api.Ans) {
	charge, e := admit.Many(m.C, m.Live, n, s)
	if e != api.OK {
		return m, no(e)
	}
	// Who is let in has a product.
	asked, _ := class.Product(m.C, n, s)
	next, a := placed(m, charge, asked)
	if a.Err != api.OK {
		return m, a
	}
	next.Mem, _ = mem.Zero(next.Mem, a.At, charge)
	return next, a
}

// replaced places a block of s as if the one that begins at p were not live, and moves there what that one held.
func replaced(m api.Model, p, s int) (api.Model, api.Ans) {
	i, ok := beginnings(m.Blocks)[beginning{p}]
	if !ok {
		return m, no(api.EPtr)
	}
	old := m.Blocks[i].Charge
	charge, e := admit.Anew(m.C, m.Live, old, s)
	if e != api.OK {
		return m, no(e)
	}
	next, a := placed(without(m, i), charge, s)
	if a.Err != api.OK {
		return m, a
	}
	next.Mem = moved(next.Mem, m.Mem, p, a.At, min(old, charge))
	return next, a
}

// placed puts a block of charge at the lowest place; EPlace: there is none; ECommit: too many pages would be met.
func placed(m api.Model, charge, asked int) (api.Model, api.Ans) {
	at, ok := lowest(m.Blocks, charge, m.C.H)
	if !ok {
		return m, no(api.EPlace)
	}
	first, behind := pin.Pages(m.C.Page, at, charge)
	on, fresh, ok := commit.Commit(m.On, met(m), first, behind, m.C.P)
	if !ok {
		return m, no(api.ECommit)
	}
	next := with(m, api.Block{At: at, Charge: charge, Asked: asked})
	next.On, next.Mem = on, filled(m, fresh)
	return next, api.Ans{At: at}
}

// freed takes the block away that begins at p.
func freed(m api.Model, p int) (api.Model, api.Ans) {
	i, ok := beginnings(m.Blocks)[beginning{p}]
	if !ok {
		return m, no(api.EPtr)
	}
	return without(m, i), api.Ans{}
}

// usable tells how much is charged for the block that begins at p.
func usable(m api.Model, p int) api.Ans {
	i, ok := beginnings(m.Blocks)[beginning{p}]
	if !ok {
		return no(api.EPtr)
	}
	return api.Ans{N: m.Blocks[i].Charge}
}

// loaded tells byte n of the block that begins at p.
func loaded(m api.Model, p, n int) api.Ans {
	if e := within(m, p, n); e != api.OK {
		return no(e)
	}
	b, _ := mem.Get(m.Mem, p+n)
	return api.Ans{Byte: b}
}

// stored puts b at byte n of the block that begins at p.
func stored(m api.Model, p, n int, b byte) (api.Model, api.Ans) {
	if e := within(m, p, n); e != api.OK {
		return m, no(e)
	}
	m.Mem, _ = mem.Put(m.Mem, p+n, b)
	return m, api.Ans{}
}

// trimmed lets all pages go that are not met.
func trimmed(m api.Model) (api.Model, api.Ans) {
	on, gone := commit.Trim(m.On, met(m))
	m.On = on
	return m, api.Ans{N: gone}
}

// figures tells how much is live, how much was at most, how high it went, and how many pages are there.
func figures(m api.Model) api.Ans {
	return api.Ans{Live: m.Live, Peak: m.Peak, Mark: m.Mark, Pages: pin.Count(m.On)}
}

// within tells why there is no byte n of a block that begins at p; OK: there is.
func within(m api.Model, p, n int) api.Errno {
	i, ok := beginnings(m.Blocks)[beginning{p}]
	if !ok {
		return api.EPtr
	}
	if n < 0 || n >= m.Blocks[i].Charge {
		return api.EBound
	}
	return api.OK
}

// met tells which pages are met.
func met(m api.Model) []bool {
	return pin.Met(m.C.Page, m.C.H, m.Blocks)
}

// filled tells the bytes of m with these pages fresh.
func filled(m api.Model, fresh []int) []byte {
	out := slices.Clone(m.Mem)
	for _, page := range fresh {
		// junk.Fill copies all bytes for each page, so what stands in these is written byte by byte. A model that is none of Do may have too few bytes.
		these := out[min(page*m.C.Page, len(out)):min((page+1)*m.C.Page, len(out))]
		for i := range these {
			these[i] = junk.Byte(m.C.Seed, page, i)
		}
	}
	return out
}

// moved tells now with the n bytes from to on as those from from on are in was.
func moved(now, was []byte, from, to, n int) []byte {
	// What is filled may be where they lay, so they are taken from what stood there ahead of all. That is laid behind what is now, since mem.Move goes from one place to another of the same bytes.
	both, _ := mem.Move(slices.Concat(now, was), len(now)+from, to, n)
	return both[:len(now)]
}
